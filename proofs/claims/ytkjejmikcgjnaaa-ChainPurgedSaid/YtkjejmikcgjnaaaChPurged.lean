/- ChainPurged returns true. No condition. -/
import Derived.Test.YtkjejmikcgjnaaaChRef
namespace Go.Proofs.Ytkjejmikcgjnaaa
open Go.RowKit

set_option maxRecDepth 100000 in
set_option maxHeartbeats 16000000 in
theorem chainPurged_any (w : World) (cv vv kv : Value) (pn : Option Addr) (nn cn N L : Nat) (f : Nat → Cv) (lv : List Vr) (S : Nat → ByteArray) (hnn : nn ≤ maxLen) (hc : ChAt w cv N f) (hv : VsAt w vv lv) (hk : StrsBig w kv L S) :
    Calls Try.prog 3 #[.agg #[cv, vv, .slice pn nn cn, kv]] w fun e w' => e = .returned (.bool true) ∧ Below w.heap.size w w' := by
  have HH := Lib.hid (fun (w' : World) (hb : Below w.heap.size w w') => heavy8_any w' cv vv kv pn nn cn N L f lv S hnn (hc.below hb) (hv.below hb) (hk.below hb))
  obtain ⟨pc, cc, rfl, hN, hat⟩ := hc.at
  obtain ⟨pv, vc, rfl, -⟩ := hv.slice
  obtain ⟨pk, ck, rfl, -⟩ := hk
  have HAT := Lib.hid hat
  unfold maxLen at hnn
  clear hc hv hat
  go_enter Try.func3, Try.ntmps3
  go_wp2_with fail
  refine (HH.out _ (by (repeat (first | exact Below.refl _ _ | assumption | refine nw_more ?_ _ _ | refine nw_alloc ?_ _ | refine nw_drew ?_ | refine nw_drewN ?_ _ | refine nw_set ?_ (by first | (simp; done) | (simp; omega) | omega) _)))).mono ?_
  rintro e w' ⟨hb1, rfl, HI, hb⟩
  obtain ⟨n0, es0, rfl⟩ := below_more hb
  clear hb HH
  cases hb1
  case true =>
    go_wp2
    go_ret
    exact ⟨rfl, by (repeat (first | exact Below.refl _ _ | assumption | refine nw_more ?_ _ _ | refine nw_alloc ?_ _ | refine nw_drew ?_ | refine nw_drewN ?_ _ | refine nw_set ?_ (by first | (simp; done) | (simp; omega) | omega) _))⟩
  case false =>
  have HL := Lib.hid (HI.out rfl)
  clear HI
  go_wp2_with fail
  go_loopg [3] (N + 1) (fun g s3 wr => (∃ n es, wr = more (w.alloc (Obj.cells #[.slice pc N cc, .slice pv lv.length vc, .slice pn nn cn, .slice pk L ck] 27)) n es) ∧ ∃ k : Nat, k ≤ N ∧ g + k = N + 1 ∧ s3 = .int .i64 k)
  case atStart => exact ⟨below_more (by (repeat (first | exact Below.refl _ _ | assumption | refine nw_more ?_ _ _ | refine nw_alloc ?_ _ | refine nw_drew ?_ | refine nw_drewN ?_ _ | refine nw_set ?_ (by first | (simp; done) | (simp; omega) | omega) _))), 0, Nat.zero_le _, rfl, rfl⟩
  case round =>
    obtain ⟨⟨n, es, rfl⟩, k, hk, hg, rfl⟩ := hrel
    obtain rfl : gk = N + 1 - k := by omega
    clear hg
    by_cases hlt : k < N
    · by_cases h6 : k < 6
      · obtain ⟨b, off, x, hfx, rfl, hb, c0, c1, hks, hvv⟩ := HAT.out k hlt
        have HLL : Hid (x.l.length ≤ 800) := Lib.hid (by rw [← hfx]; exact HL.out k hlt)
        obtain ⟨kk, xv, xl⟩ := x
        obtain ⟨xp, xc, hxv, hxc⟩ := hvv.slice
        dsimp only at hxv hxc c0 c1 hks hvv HLL
        subst hxv
        have HV := Lib.hid hvv
        have hkN : (k : Int) < (N : Int) := by omega
        have hk6 : (k : Int) < 6 := by omega
        have hdN : decide ((k : Int) < (N : Int)) = true := decide_eq_true hkN
        have hd6 : decide ((k : Int) < 6) = true := decide_eq_true hk6
        have hxl := hvv.1
        clear hfx hvv
        cases hok : chOk kk xl
        · have HK := Lib.hid hok
          clear hok
          go_wp2_with (first | (go_at_call 7; refine (rChain_any _ kk _ xl hks (HV.out.below (by (repeat (first | exact Below.refl _ _ | assumption | refine nw_more ?_ _ _ | refine nw_alloc ?_ _ | refine nw_drew ?_ | refine nw_drewN ?_ _ | refine nw_set ?_ (by first | (simp; done) | (simp; omega) | omega) _))))).mono ?_; rw [HK.out]; (rintro e w' ⟨rfl, hb⟩; obtain ⟨n, es, rfl⟩ := below_more hb; clear hb)))
          go_roundg (N + 1 - k - 1)
          case measure => omega
          case rel => exact ⟨below_more (by (repeat (first | exact Below.refl _ _ | assumption | refine nw_more ?_ _ _ | refine nw_alloc ?_ _ | refine nw_drew ?_ | refine nw_drewN ?_ _ | refine nw_set ?_ (by first | (simp; done) | (simp; omega) | omega) _))), k + 1, by omega, by omega, by go_num⟩
        · have HK := Lib.hid hok
          clear hok
          go_wp2_with (first | (go_at_call 7; refine (rChain_any _ kk _ xl hks (HV.out.below (by (repeat (first | exact Below.refl _ _ | assumption | refine nw_more ?_ _ _ | refine nw_alloc ?_ _ | refine nw_drew ?_ | refine nw_drewN ?_ _ | refine nw_set ?_ (by first | (simp; done) | (simp; omega) | omega) _))))).mono ?_; rw [HK.out]; (rintro e w' ⟨rfl, hb⟩; obtain ⟨n, es, rfl⟩ := below_more hb; clear hb)))
          go_loopg [4] 13 (fun g s4 wr => (∃ n es, wr = more (w.alloc (Obj.cells #[.slice (some ⟨b, off, none⟩) N cc, .slice pv lv.length vc, .slice pn nn cn, .slice pk L ck] 27)) n es) ∧ ∃ q : Nat, q ≤ 12 ∧ g + q = 13 ∧ s4 = .int .i64 q)
          case atStart => exact ⟨below_more (by (repeat (first | exact Below.refl _ _ | assumption | refine nw_more ?_ _ _ | refine nw_alloc ?_ _ | refine nw_drew ?_ | refine nw_drewN ?_ _ | refine nw_set ?_ (by first | (simp; done) | (simp; omega) | omega) _))), 0, by omega, by omega, rfl⟩
          case round =>
            obtain ⟨⟨n, es, rfl⟩, q, hq, hg, rfl⟩ := hrel
            obtain rfl : gk = 13 - q := by omega
            clear hg
            by_cases hq12 : q < 12
            · have hdq : decide ((q : Int) < 12) = true := decide_eq_true (by omega)
              have hq12' : (q : Int) < 12 := by omega
              go_wp2_with fail
              refine (purge_any _ kk _ xl q hks (by have := HLL.out; omega) (HV.out.below (by (repeat (first | exact Below.refl _ _ | assumption | refine nw_more ?_ _ _ | refine nw_alloc ?_ _ | refine nw_drew ?_ | refine nw_drewN ?_ _ | refine nw_set ?_ (by first | (simp; done) | (simp; omega) | omega) _)))) HK.out).mono ?_
              rintro e w' ⟨k', u, rfl, hu, h1, h2, hb⟩
              by_cases hR : leftV q xl = []
              · obtain ⟨rfl, rfl⟩ := h1 hR
                have HN : Hid (∀ m : Int, (q : Int) ≤ m → atV m xl = none) := Lib.hid (fun m hm => by rw [← left_at q m hm xl, hR]; rfl)
                obtain ⟨n1, es1, rfl⟩ := below_more hb
                clear hb hu h1 h2 hR
                go_wp2_with (first | (go_at_call 9; refine (num8_any _ _).mono ?_; rintro e w' ⟨rfl, rfl⟩))
                go_loopg [8] (15 - q) (fun g s8 wx => (∃ n' es', wx = more ((more (more (w.alloc (Obj.cells #[.slice (some ⟨b, off, none⟩) N cc, .slice pv lv.length vc, .slice pn nn cn, .slice pk L ck] 27)) n es) n1 es1).alloc (Obj.cells #[.string E0, .slice none 0 0] 31)) n' es') ∧ ∃ m : Nat, q ≤ m ∧ m ≤ 14 ∧ g + m = 15 ∧ s8 = .int .i64 m)
                case atStart => exact ⟨below_more (Below.refl _ _), q, Nat.le_refl _, by omega, by omega, rfl⟩
                case round =>
                  obtain ⟨⟨n2, es2, rfl⟩, m, hqm, hm, hg, rfl⟩ := hrel
                  obtain rfl : gk = 15 - m := by omega
                  clear hg
                  by_cases hm14 : m < 14
                  · have hm14' : (m : Int) < 14 := by omega
                    have HQ : Hid ((q : Int) ≤ m) := Lib.hid (by omega)
                    go_wp2_with fail
                    refine (at_any _ kk _ xl m hks (HV.out.below (by (repeat (first | exact Below.refl _ _ | assumption | refine nw_more ?_ _ _ | refine nw_alloc ?_ _ | refine nw_drew ?_ | refine nw_drewN ?_ _ | refine nw_set ?_ (by first | (simp; done) | (simp; omega) | omega) _))))).mono ?_
                    rw [HK.out, HN.out m HQ.out, atTwo_none]
                    (rintro e w' ⟨rfl, hb⟩; obtain ⟨n, es, rfl⟩ := below_more hb; clear hb)
                    go_wp2_with (first | (go_at_call 9; refine (num8_any _ _).mono ?_; rintro e w' ⟨rfl, rfl⟩))
                    go_roundg (15 - m - 1)
                    case measure => omega
                    case rel => exact ⟨below_more (by (repeat (first | exact Below.refl _ _ | assumption | refine nw_more ?_ _ _ | refine nw_alloc ?_ _ | refine nw_drew ?_ | refine nw_drewN ?_ _ | refine nw_set ?_ (by first | (simp; done) | (simp; omega) | omega) _))), m + 1, by omega, by omega, by omega, by go_num⟩
                  · have hm14' : ¬ (m : Int) < 14 := by omega
                    go_wp2_with fail
                    go_roundg (13 - q - 1)
                    case measure => omega
                    case rel => exact ⟨below_more (by (repeat (first | exact Below.refl _ _ | assumption | refine nw_more ?_ _ _ | refine nw_alloc ?_ _ | refine nw_drew ?_ | refine nw_drewN ?_ _ | refine nw_set ?_ (by first | (simp; done) | (simp; omega) | omega) _))), q + 1, by omega, by omega, by go_num⟩
              · have ek : k' = kk := h2 hR
                subst k'
                have HU := Lib.hid hu
                obtain ⟨up, uc, rfl, -⟩ := hu.slice
                have HA : Hid (∀ m : Int, (q : Int) ≤ m → atV m (leftV q xl) = atV m xl) := Lib.hid (fun m hm => left_at q m hm xl)
                have HKL : Hid (chOk kk (leftV q xl) = true) := Lib.hid (chOk_of (chOk_parts HK.out).1 (List.length_pos_iff.2 hR) (left_ok _ (chOk_parts HK.out).2.2))
                have HLN : Hid ((leftV q xl).length ≤ 800) := Lib.hid (Nat.le_trans (left_length q xl) HLL.out)
                have HLI : Hid (leftV q (leftV q xl) = leftV q xl) := Lib.hid (left_left q xl)
                have hpos : (0 : Int) < ((leftV q xl).length : Int) := by have := List.length_pos_iff.2 hR; omega
                have hdp : decide (0 < (leftV q xl).length) = true := decide_eq_true (List.length_pos_iff.2 hR)
                have HRN := Lib.hid hR
                obtain ⟨n1, es1, rfl⟩ := below_more hb
                clear hb hu h1 h2 hR
                generalize leftV q xl = R at *
                go_wp2_with (first | (go_at_call 9; refine (num8_any _ _).mono ?_; rintro e w' ⟨rfl, rfl⟩))
                go_loopg [8] (15 - q) (fun g s8 wx => (∃ n' es', wx = more ((more (more (w.alloc (Obj.cells #[.slice (some ⟨b, off, none⟩) N cc, .slice pv lv.length vc, .slice pn nn cn, .slice pk L ck] 27)) n es) n1 es1).alloc (Obj.cells #[.string kk, .slice up R.length uc] 31)) n' es') ∧ ∃ m : Nat, q ≤ m ∧ m ≤ 14 ∧ g + m = 15 ∧ s8 = .int .i64 m)
                case atStart => exact ⟨below_more (Below.refl _ _), q, Nat.le_refl _, by omega, by omega, rfl⟩
                case round =>
                  obtain ⟨⟨n2, es2, rfl⟩, m, hqm, hm, hg, rfl⟩ := hrel
                  obtain rfl : gk = 15 - m := by omega
                  clear hg
                  by_cases hm14 : m < 14
                  · have hm14' : (m : Int) < 14 := by omega
                    have HQ : Hid ((q : Int) ≤ m) := Lib.hid (by omega)
                    go_wp2_with fail
                    refine (at_any _ kk _ xl m hks (HV.out.below (by (repeat (first | exact Below.refl _ _ | assumption | refine nw_more ?_ _ _ | refine nw_alloc ?_ _ | refine nw_drew ?_ | refine nw_drewN ?_ _ | refine nw_set ?_ (by first | (simp; done) | (simp; omega) | omega) _))))).mono ?_
                    have HA2 := Lib.hid (HA.out m HQ.out)
                    rw [HK.out]
                    generalize atV (m : Int) xl = A at *
                    cases A with
                    | none =>
                      rw [atTwo_none]
                      (rintro e w' ⟨rfl, hb⟩; obtain ⟨n, es, rfl⟩ := below_more hb; clear hb)
                      go_wp2_with fail
                      refine (at_any _ kk _ R m hks (HU.out.below (by (repeat (first | exact Below.refl _ _ | assumption | refine nw_more ?_ _ _ | refine nw_alloc ?_ _ | refine nw_drew ?_ | refine nw_drewN ?_ _ | refine nw_set ?_ (by first | (simp; done) | (simp; omega) | omega) _))))).mono ?_
                      rw [HKL.out, HA2.out, atTwo_none]
                      (rintro e w' ⟨rfl, hb⟩; obtain ⟨n, es, rfl⟩ := below_more hb; clear hb)
                      go_wp2_with (first | (go_at_call 9; refine (num8_any _ _).mono ?_; rintro e w' ⟨rfl, rfl⟩))
                      go_roundg (15 - m - 1)
                      case measure => omega
                      case rel => exact ⟨below_more (by (repeat (first | exact Below.refl _ _ | assumption | refine nw_more ?_ _ _ | refine nw_alloc ?_ _ | refine nw_drew ?_ | refine nw_drewN ?_ _ | refine nw_set ?_ (by first | (simp; done) | (simp; omega) | omega) _))), m + 1, by omega, by omega, by omega, by go_num⟩
                    | some y =>
                      obtain ⟨yc, ys, yg⟩ := y
                      rw [atTwo_some]
                      (rintro e w' ⟨rfl, hb⟩; obtain ⟨n, es, rfl⟩ := below_more hb; clear hb)
                      go_wp2_with fail
                      refine (at_any _ kk _ R m hks (HU.out.below (by (repeat (first | exact Below.refl _ _ | assumption | refine nw_more ?_ _ _ | refine nw_alloc ?_ _ | refine nw_drew ?_ | refine nw_drewN ?_ _ | refine nw_set ?_ (by first | (simp; done) | (simp; omega) | omega) _))))).mono ?_
                      rw [HKL.out, HA2.out, atTwo_some]
                      (rintro e w' ⟨rfl, hb⟩; obtain ⟨n, es, rfl⟩ := below_more hb; clear hb)
                      go_wp2_with (first | (go_at_call 9; refine (num8_any _ _).mono ?_; rintro e w' ⟨rfl, rfl⟩))
                      go_roundg (15 - m - 1)
                      case measure => omega
                      case rel => exact ⟨below_more (by (repeat (first | exact Below.refl _ _ | assumption | refine nw_more ?_ _ _ | refine nw_alloc ?_ _ | refine nw_drew ?_ | refine nw_drewN ?_ _ | refine nw_set ?_ (by first | (simp; done) | (simp; omega) | omega) _))), m + 1, by omega, by omega, by omega, by go_num⟩
                  · have hm14' : ¬ (m : Int) < 14 := by omega
                    go_wp2_with fail
                    refine (purge_any _ kk _ R q hks (by have := HLN.out; omega) (HU.out.below (by (repeat (first | exact Below.refl _ _ | assumption | refine nw_more ?_ _ _ | refine nw_alloc ?_ _ | refine nw_drew ?_ | refine nw_drewN ?_ _ | refine nw_set ?_ (by first | (simp; done) | (simp; omega) | omega) _)))) HKL.out).mono ?_
                    rw [HLI.out]
                    rintro e w' ⟨k', u, rfl, hu, -, h2, hb⟩
                    have ek : k' = kk := h2 HRN.out
                    subst k'
                    have HU2 := Lib.hid hu
                    obtain ⟨vp, vc2, rfl, -⟩ := hu.slice
                    obtain ⟨n3, es3, rfl⟩ := below_more hb
                    clear hb hu h2
                    go_wp2_with (first | (go_at_call 9; refine (num8_any _ _).mono ?_; rintro e w' ⟨rfl, rfl⟩) | (go_at_call 11; refine (eqChain_same _ kk _ _ R (HU.out.below (by (repeat (first | exact Below.refl _ _ | assumption | refine nw_more ?_ _ _ | refine nw_alloc ?_ _ | refine nw_drew ?_ | refine nw_drewN ?_ _ | refine nw_set ?_ (by first | (simp; done) | (simp; omega) | omega) _)))) (HU2.out.below (by (repeat (first | exact Below.refl _ _ | assumption | refine nw_more ?_ _ _ | refine nw_alloc ?_ _ | refine nw_drew ?_ | refine nw_drewN ?_ _ | refine nw_set ?_ (by first | (simp; done) | (simp; omega) | omega) _))))).mono ?_; (rintro e w' ⟨rfl, hb⟩; obtain ⟨n, es, rfl⟩ := below_more hb; clear hb)))
                    go_roundg (13 - q - 1)
                    case measure => omega
                    case rel => exact ⟨below_more (by (repeat (first | exact Below.refl _ _ | assumption | refine nw_more ?_ _ _ | refine nw_alloc ?_ _ | refine nw_drew ?_ | refine nw_drewN ?_ _ | refine nw_set ?_ (by first | (simp; done) | (simp; omega) | omega) _))), q + 1, by omega, by omega, by go_num⟩
            · go_wp2_with fail
              go_roundg (N + 1 - k - 1)
              case measure => omega
              case rel => exact ⟨below_more (by (repeat (first | exact Below.refl _ _ | assumption | refine nw_more ?_ _ _ | refine nw_alloc ?_ _ | refine nw_drew ?_ | refine nw_drewN ?_ _ | refine nw_set ?_ (by first | (simp; done) | (simp; omega) | omega) _))), k + 1, by omega, by omega, by go_num⟩
      · have hk6 : ¬ (k : Int) < 6 := by omega
        clear HAT
        go_wp2_with (first | (go_at_call 12; refine (wakes8_any _).mono ?_; (rintro e w' ⟨rfl, hb⟩; obtain ⟨n, es, rfl⟩ := below_more hb; clear hb)))
        go_ret
        exact ⟨rfl, by (repeat (first | exact Below.refl _ _ | assumption | refine nw_more ?_ _ _ | refine nw_alloc ?_ _ | refine nw_drew ?_ | refine nw_drewN ?_ _ | refine nw_set ?_ (by first | (simp; done) | (simp; omega) | omega) _))⟩
    · have hkN : ¬ (k : Int) < (N : Int) := by omega
      clear HAT
      go_wp2_with (first | (go_at_call 12; refine (wakes8_any _).mono ?_; (rintro e w' ⟨rfl, hb⟩; obtain ⟨n, es, rfl⟩ := below_more hb; clear hb)))
      go_ret
      exact ⟨rfl, by (repeat (first | exact Below.refl _ _ | assumption | refine nw_more ?_ _ _ | refine nw_alloc ?_ _ | refine nw_drew ?_ | refine nw_drewN ?_ _ | refine nw_set ?_ (by first | (simp; done) | (simp; omega) | omega) _))⟩
end Go.Proofs.Ytkjejmikcgjnaaa
