/- ChainGone returns true. No condition. -/
import Derived.Test.YtkjejmikcgjnaaaChHv
namespace Go.Proofs.Ytkjejmikcgjnaaa
open Go.RowKit

theorem eqNil (w : World) : Calls Try.prog 11 #[.agg #[.string E0, .slice none 0 0], .agg #[.string { data := #[] }, .slice none 0 0]] w fun e w' => e = .returned (.bool true) ∧ Below w.heap.size w w' :=
  eqChain_same w E0 _ _ [] (VsAt.nil _ _ _) (VsAt.nil _ _ _)
theorem gone_at (l : List Vr) : atV 900 (⟨900, { data := #[] }, true⟩ :: l) = none ∧ leftV 900 (⟨900, { data := #[] }, true⟩ :: l) = [] ∧ atV 899 (⟨900, { data := #[] }, true⟩ :: l) = atV 899 l := ⟨rfl, rfl, rfl⟩

set_option maxRecDepth 100000 in
set_option maxHeartbeats 8000000 in
theorem chainGone_any (w : World) (cv vv kv : Value) (pn : Option Addr) (nn cn N L : Nat) (f : Nat → Cv) (lv : List Vr) (S : Nat → ByteArray) (hnn : nn ≤ maxLen) (hc : ChAt w cv N f) (hv : VsAt w vv lv) (hk : StrsBig w kv L S) :
    Calls Try.prog 4 #[.agg #[cv, vv, .slice pn nn cn, kv]] w fun e w' => e = .returned (.bool true) ∧ Below w.heap.size w w' := by
  have HH := Lib.hid (fun (w' : World) (hb : Below w.heap.size w w') => heavy8_any w' cv vv kv pn nn cn N L f lv S hnn (hc.below hb) (hv.below hb) (hk.below hb))
  obtain ⟨pc, cc, rfl, hN, hat⟩ := hc.at
  obtain ⟨pv, vc, rfl, -⟩ := hv.slice
  obtain ⟨pk, ck, rfl, -⟩ := hk
  have HAT := Lib.hid hat
  unfold maxLen at hnn
  clear hc hv hat
  go_enter Try.func4, Try.ntmps4
  go_wp2_with fail
  refine (HH.out _ (by (repeat (first | exact Below.refl _ _ | assumption | refine nw_more ?_ _ _ | refine nw_alloc ?_ _ | refine nw_drew ?_ | refine nw_drewN ?_ _ | refine nw_set ?_ (by first | (simp; done) | (simp; omega) | omega) _)))).mono ?_
  rintro e w' ⟨hb1, rfl, HI, hb⟩
  obtain ⟨n0, es0, rfl⟩ := below_more hb
  clear hb HH
  cases hb1
  case true =>
    go_wp2
    go_ret
    exact ⟨rfl, by (repeat (first | exact Below.refl _ _ | assumption | refine nw_more ?_ _ _ | refine nw_alloc ?_ _ | refine nw_drew ?_ | refine nw_drewN ?_ _ | refine nw_set ?_ (by first | (simp; done) | (simp; omega) | omega) _))⟩
  case false =>
  have HL := Lib.hid (HI.out rfl)
  clear HI
  go_wp2_with fail
  go_loopg [3] (N + 1) (fun g s3 wr => (∃ n es, wr = more (w.alloc (Obj.cells #[.slice pc N cc, .slice pv lv.length vc, .slice pn nn cn, .slice pk L ck] 27)) n es) ∧ ∃ k : Nat, k ≤ N ∧ g + k = N + 1 ∧ s3 = .int .i64 k)
  case atStart => exact ⟨below_more (by (repeat (first | exact Below.refl _ _ | assumption | refine nw_more ?_ _ _ | refine nw_alloc ?_ _ | refine nw_drew ?_ | refine nw_drewN ?_ _ | refine nw_set ?_ (by first | (simp; done) | (simp; omega) | omega) _))), 0, Nat.zero_le _, rfl, rfl⟩
  case round =>
    obtain ⟨⟨n, es, rfl⟩, k, hk, hg, rfl⟩ := hrel
    obtain rfl : gk = N + 1 - k := by omega
    clear hg
    by_cases hlt : k < N
    · by_cases h6 : k < 6
      · obtain ⟨b, off, x, hfx, rfl, hb, c0, c1, hks, hvv⟩ := HAT.out k hlt
        have HLL : Hid (x.l.length ≤ 800) := Lib.hid (by rw [← hfx]; exact HL.out k hlt)
        obtain ⟨kk, xv, xl⟩ := x
        obtain ⟨xp, xc, hxv, hxc⟩ := hvv.slice
        dsimp only at hxv hxc c0 c1 hks hvv HLL
        subst hxv
        have HV := Lib.hid hvv
        have hkN : (k : Int) < (N : Int) := by omega
        have hk6 : (k : Int) < 6 := by omega
        have hxl := hvv.1
        clear hfx hvv
        go_wp2_with fail
        refine (add_any _ kk _ xl 900 _ true hks (by decide) (by have := HLL.out; omega) (HV.out.below (by (repeat (first | exact Below.refl _ _ | assumption | refine nw_more ?_ _ _ | refine nw_alloc ?_ _ | refine nw_drew ?_ | refine nw_drewN ?_ _ | refine nw_set ?_ (by first | (simp; done) | (simp; omega) | omega) _))))).mono ?_
        cases hok : (chOk kk xl && chOk kk (⟨900, { data := #[] }, true⟩ :: xl))
        · clear hok
          rintro e w' ⟨u, rfl, -, hb⟩
          obtain ⟨n1, es1, rfl⟩ := below_more hb
          clear hb
          go_wp2_with (first | (go_at_call 9; refine (num8_any _ _).mono ?_; rintro e w' ⟨rfl, rfl⟩))
          go_roundg (N + 1 - k - 1)
          case measure => omega
          case rel => exact ⟨below_more (by (repeat (first | exact Below.refl _ _ | assumption | refine nw_more ?_ _ _ | refine nw_alloc ?_ _ | refine nw_drew ?_ | refine nw_drewN ?_ _ | refine nw_set ?_ (by first | (simp; done) | (simp; omega) | omega) _))), k + 1, by omega, by omega, by go_num⟩
        · simp only [Bool.and_eq_true] at hok
          have HK1 := Lib.hid hok.1
          have HK2 := Lib.hid hok.2
          clear hok
          rintro e w' ⟨u, rfl, hu, hb⟩
          obtain ⟨hu2, q, qc, rfl, -⟩ := hu HK1.out
          have HU := Lib.hid hu2
          have HU3 := Lib.hid (hu2.1)
          obtain ⟨n1, es1, rfl⟩ := below_more hb
          clear hb hu hu2
          obtain ⟨g1, g2, g3⟩ := gone_at xl
          have G1 := Lib.hid g1
          have G2 := Lib.hid g2
          have G3 := Lib.hid g3
          clear g1 g2 g3
          go_wp2_with (first | (go_at_call 9; refine (num8_any _ _).mono ?_; rintro e w' ⟨rfl, rfl⟩))
          refine (at_any _ kk _ (⟨900, { data := #[] }, true⟩ :: xl) 900 hks (HU.out.below (by (repeat (first | exact Below.refl _ _ | assumption | refine nw_more ?_ _ _ | refine nw_alloc ?_ _ | refine nw_drew ?_ | refine nw_drewN ?_ _ | refine nw_set ?_ (by first | (simp; done) | (simp; omega) | omega) _))))).mono ?_
          rw [HK2.out, G1.out, atTwo_none]
          (rintro e w' ⟨rfl, hb⟩; obtain ⟨n, es, rfl⟩ := below_more hb; clear hb)
          go_wp2_with fail
          refine (purge_any _ kk _ (⟨900, { data := #[] }, true⟩ :: xl) 900 hks (by have := HLL.out; simp; omega) (HU.out.below (by (repeat (first | exact Below.refl _ _ | assumption | refine nw_more ?_ _ _ | refine nw_alloc ?_ _ | refine nw_drew ?_ | refine nw_drewN ?_ _ | refine nw_set ?_ (by first | (simp; done) | (simp; omega) | omega) _)))) HK2.out).mono ?_
          rw [G2.out]
          rintro e w' ⟨k', u', rfl, -, hkk, -, hb⟩
          obtain ⟨rfl, rfl⟩ := hkk rfl
          obtain ⟨n2, es2, rfl⟩ := below_more hb
          clear hb hkk
          go_wp2_with fail
          refine (count_any _ kk _ (⟨900, { data := #[] }, true⟩ :: xl) hks (HU.out.below (by (repeat (first | exact Below.refl _ _ | assumption | refine nw_more ?_ _ _ | refine nw_alloc ?_ _ | refine nw_drew ?_ | refine nw_drewN ?_ _ | refine nw_set ?_ (by first | (simp; done) | (simp; omega) | omega) _))))).mono ?_
          rw [HK2.out]
          dsimp only
          (rintro e w' ⟨rfl, hb⟩; obtain ⟨n, es, rfl⟩ := below_more hb; clear hb)
          go_wp2_with fail
          refine (count_any _ kk _ xl hks (HV.out.below (by (repeat (first | exact Below.refl _ _ | assumption | refine nw_more ?_ _ _ | refine nw_alloc ?_ _ | refine nw_drew ?_ | refine nw_drewN ?_ _ | refine nw_set ?_ (by first | (simp; done) | (simp; omega) | omega) _))))).mono ?_
          rw [HK1.out]
          dsimp only
          (rintro e w' ⟨rfl, hb⟩; obtain ⟨n, es, rfl⟩ := below_more hb; clear hb)
          go_wp2_with fail
          refine (at_any _ kk _ (⟨900, { data := #[] }, true⟩ :: xl) 899 hks (HU.out.below (by (repeat (first | exact Below.refl _ _ | assumption | refine nw_more ?_ _ _ | refine nw_alloc ?_ _ | refine nw_drew ?_ | refine nw_drewN ?_ _ | refine nw_set ?_ (by first | (simp; done) | (simp; omega) | omega) _))))).mono ?_
          rw [HK2.out, G3.out]
          generalize hA : atV 899 xl = A
          have HA := Lib.hid hA
          clear hA
          cases A with
          | none =>
            rw [atTwo_none]
            (rintro e w' ⟨rfl, hb⟩; obtain ⟨n, es, rfl⟩ := below_more hb; clear hb)
            go_wp2_with fail
            refine (at_any _ kk _ xl 899 hks (HV.out.below (by (repeat (first | exact Below.refl _ _ | assumption | refine nw_more ?_ _ _ | refine nw_alloc ?_ _ | refine nw_drew ?_ | refine nw_drewN ?_ _ | refine nw_set ?_ (by first | (simp; done) | (simp; omega) | omega) _))))).mono ?_
            rw [HK1.out, HA.out, atTwo_none]
            (rintro e w' ⟨rfl, hb⟩; obtain ⟨n, es, rfl⟩ := below_more hb; clear hb)
            go_wp2_with (first | (go_at_call 9; refine (num8_any _ _).mono ?_; rintro e w' ⟨rfl, rfl⟩) | (go_at_call 11; refine (eqNil _).mono ?_; (rintro e w' ⟨rfl, hb⟩; obtain ⟨n, es, rfl⟩ := below_more hb; clear hb)))
            go_roundg (N + 1 - k - 1)
            case measure => omega
            case rel => exact ⟨below_more (by (repeat (first | exact Below.refl _ _ | assumption | refine nw_more ?_ _ _ | refine nw_alloc ?_ _ | refine nw_drew ?_ | refine nw_drewN ?_ _ | refine nw_set ?_ (by first | (simp; done) | (simp; omega) | omega) _))), k + 1, by omega, by omega, by go_num⟩
          | some y =>
            obtain ⟨yc, ys, yg⟩ := y
            rw [atTwo_some]
            (rintro e w' ⟨rfl, hb⟩; obtain ⟨n, es, rfl⟩ := below_more hb; clear hb)
            go_wp2_with fail
            refine (at_any _ kk _ xl 899 hks (HV.out.below (by (repeat (first | exact Below.refl _ _ | assumption | refine nw_more ?_ _ _ | refine nw_alloc ?_ _ | refine nw_drew ?_ | refine nw_drewN ?_ _ | refine nw_set ?_ (by first | (simp; done) | (simp; omega) | omega) _))))).mono ?_
            rw [HK1.out, HA.out, atTwo_some]
            (rintro e w' ⟨rfl, hb⟩; obtain ⟨n, es, rfl⟩ := below_more hb; clear hb)
            go_wp2_with (first | (go_at_call 9; refine (num8_any _ _).mono ?_; rintro e w' ⟨rfl, rfl⟩) | (go_at_call 11; refine (eqNil _).mono ?_; (rintro e w' ⟨rfl, hb⟩; obtain ⟨n, es, rfl⟩ := below_more hb; clear hb)))
            go_roundg (N + 1 - k - 1)
            case measure => omega
            case rel => exact ⟨below_more (by (repeat (first | exact Below.refl _ _ | assumption | refine nw_more ?_ _ _ | refine nw_alloc ?_ _ | refine nw_drew ?_ | refine nw_drewN ?_ _ | refine nw_set ?_ (by first | (simp; done) | (simp; omega) | omega) _))), k + 1, by omega, by omega, by go_num⟩
      · have hk6 : ¬ (k : Int) < 6 := by omega
        clear HAT
        go_wp2_with (first | (go_at_call 12; refine (wakes8_any _).mono ?_; (rintro e w' ⟨rfl, hb⟩; obtain ⟨n, es, rfl⟩ := below_more hb; clear hb)))
        go_ret
        exact ⟨rfl, by (repeat (first | exact Below.refl _ _ | assumption | refine nw_more ?_ _ _ | refine nw_alloc ?_ _ | refine nw_drew ?_ | refine nw_drewN ?_ _ | refine nw_set ?_ (by first | (simp; done) | (simp; omega) | omega) _))⟩
    · have hkN : ¬ (k : Int) < (N : Int) := by omega
      clear HAT
      go_wp2_with (first | (go_at_call 12; refine (wakes8_any _).mono ?_; (rintro e w' ⟨rfl, hb⟩; obtain ⟨n, es, rfl⟩ := below_more hb; clear hb)))
      go_ret
      exact ⟨rfl, by (repeat (first | exact Below.refl _ _ | assumption | refine nw_more ?_ _ _ | refine nw_alloc ?_ _ | refine nw_drew ?_ | refine nw_drewN ?_ _ | refine nw_set ?_ (by first | (simp; done) | (simp; omega) | omega) _))⟩
end Go.Proofs.Ytkjejmikcgjnaaa
