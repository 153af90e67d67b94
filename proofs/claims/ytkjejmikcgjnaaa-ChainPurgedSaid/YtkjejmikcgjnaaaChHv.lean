/- The weight of an argument of layer 8's laws: what it says of the chains' lengths. No condition. -/
import Derived.Test.YtkjejmikcgjnaaaChH
namespace Go.Proofs.Ytkjejmikcgjnaaa
open Go.RowKit

def StrsBig (w : World) (v : Value) (L : Nat) (S : Nat → ByteArray) : Prop :=
  ∃ p cap, v = .slice p L cap ∧ L ≤ 140737488355328 ∧ ∀ i, i < L → ∃ b off, p = some ⟨b, off, none⟩ ∧ b < w.heap.size ∧ w.cell? ⟨b, off + i, none⟩ = some (.string (S i)) ∧ (S i).size ≤ 140737488355328
theorem StrsBig.below {w w' : World} {v : Value} {L : Nat} {S : Nat → ByteArray} (h : StrsBig w v L S) (hb : Below w.heap.size w w') : StrsBig w' v L S := by
  obtain ⟨p, cap, h1, h3, h4⟩ := h
  refine ⟨p, cap, h1, h3, fun i hi => ?_⟩
  obtain ⟨b, off, e, h2, h5, h6⟩ := h4 i hi
  exact ⟨b, off, e, Nat.lt_of_lt_of_le h2 hb.size, by rw [hb.cell (p := ⟨b, off + i, none⟩) h2]; exact h5, h6⟩

set_option maxHeartbeats 400000 in
theorem texts_any (w : World) (v : Value) (L : Nat) (S : Nat → ByteArray) (h : StrsBig w v L S) :
    Calls Try.prog 17 #[v] w fun e w' => (∃ m : Int, e = .returned (.int .i64 m)) ∧ w' = w := by
  obtain ⟨p, cap, rfl, h3, h4⟩ := h
  have H4 := Lib.hid h4
  clear h4
  go_enter Try.func17, Try.ntmps17
  go_wp2
  go_loop [3, 4] (fun n i => ∃ (m : Int) (k : Nat), k ≤ L ∧ n = .int .i64 m ∧ i = .int .i64 k) (fun _ i => L - (intOf i).toNat)
  case atStart => exact ⟨_, 0, Nat.zero_le _, rfl, rfl⟩
  case round =>
    obtain ⟨m, k, hk, rfl, rfl⟩ := hrel
    by_cases hlt : k < L
    · by_cases hm : m < 1048576
      · obtain ⟨b, off, rfl, h2, hc, hsz⟩ := H4.out k hlt
        generalize S k = s at *
        go_wp2
        go_round
        case rel => exact ⟨_, k + 1, by omega, rfl, by go_num⟩
        case measure => simp [intOf]; omega
      · go_wp2
        go_ret
        exact ⟨⟨m, rfl⟩, rfl⟩
    · go_wp2
      go_ret
      exact ⟨⟨m, rfl⟩, rfl⟩

set_option maxHeartbeats 2000000 in
theorem tableWeight_any (w : World) (v : Value) (N : Nat) (f : Nat → Cv) (h : ChAt w v N f) :
    Calls Try.prog 16 #[.agg #[v]] w fun e w' => ∃ m : Int, e = .returned (.int .i64 m) ∧ Hid (m ≤ 800 → ∀ i, i < N → (f i).l.length ≤ 800) ∧ Below w.heap.size w w' := by
  obtain ⟨p, cap, rfl, hN, ht⟩ := h.at
  have H := Lib.hid ht
  clear h ht
  go_enter Try.func16, Try.ntmps16
  go_wp2
  go_loopg [3, 4] (N + 1) (fun g s3 s4 wr => (∃ n es, wr = more (w.alloc (Obj.cells #[.slice p N cap] 49)) n es) ∧ ∃ (m : Int) (k : Nat), k ≤ N ∧ g + k = N + 1 ∧ 0 ≤ m ∧ s3 = .int .i64 m ∧ s4 = .int .i64 k ∧ Hid (∀ i, i < k → ((f i).l.length : Int) ≤ m))
  case atStart => exact ⟨below_more (Below.refl _ _), N, 0, Nat.zero_le _, rfl, by omega, rfl, rfl, Lib.hid (fun i hi => absurd hi (Nat.not_lt_zero _))⟩
  case round =>
    obtain ⟨⟨n, es, rfl⟩, m, k, hk, hg, hm0, rfl, rfl, HI⟩ := hrel
    obtain rfl : gk = N + 1 - k := by omega
    clear hg
    by_cases hlt : k < N
    · by_cases hm : m < 1048576
      · obtain ⟨b, off, x, hfx, rfl, hb, c0, c1, hks, hv⟩ := H.out k hlt
        obtain ⟨xp, xc, hxv, hxc⟩ := hv.slice
        have hxl := hv.1
        have hsz := hv.2.1
        have HAT := Lib.hid hv.at
        obtain ⟨kk, xv, xl⟩ := x
        dsimp only at hxv hxl hsz hxc c0 c1 hks HAT
        subst hxv
        have HFX := Lib.hid hfx
        have hkN : (k : Int) < (N : Int) := by omega
        have hdm : decide (m < 1048576) = true := decide_eq_true hm
        clear hfx hv H hsz
        go_wp2_with fail
        (refine wp_region_quiet_more (by kernel_rfl) (by kernel_rfl) ?_; (repeat (first | go_big_quiet_skip | quiet_step ((first | fail)))); refine wpQuiet_nil ?_; intro _ hw'; obtain ⟨⟨nq, esq⟩, hw''⟩ := hw'; subst hw''; dsimp only)
        have w1 : IntKind.i64.wrap (m + (xl.length : Int)) = m + xl.length := IntWalk.i64_in _ (by omega)
        have w2 : IntKind.i64.wrap ((kk.size : Int) / 8) = (kk.size : Int) / 8 := IntWalk.i64_in _ (by omega)
        have w3 : IntKind.i64.wrap (m + (xl.length : Int) + (kk.size : Int) / 8) = m + (xl.length : Int) + (kk.size : Int) / 8 := IntWalk.i64_in _ (by omega)
        go_wp2_with fail
        rw [w1, w2, w3]
        clear w1 w2 w3
        have hmm : 0 ≤ m + (xl.length : Int) + (kk.size : Int) / 8 := by omega
        have HI2 : Hid (∀ m2 : Int, m + (xl.length : Int) + (kk.size : Int) / 8 ≤ m2 → ∀ i, i < k + 1 → ((f i).l.length : Int) ≤ m2) := Lib.hid (fun m2 hm2 i hi => by
          rcases Nat.lt_or_ge i k with h1 | h1
          · have := HI.out i h1; omega
          · obtain rfl : i = k := by omega
            rw [HFX.out]
            show (xl.length : Int) ≤ m2
            omega)
        generalize m + (xl.length : Int) + (kk.size : Int) / 8 = M at *
        go_loopg [3, 5] (xl.length + 1) (fun g s3 s5 wr => (∃ n es, wr = more (w.alloc (Obj.cells #[.slice (some ⟨b, off, none⟩) N cap] 49)) n es) ∧ ∃ (m2 : Int) (j : Nat), j ≤ xl.length ∧ g + j = xl.length + 1 ∧ M ≤ m2 ∧ s3 = .int .i64 m2 ∧ s5 = .int .i64 j)
        case atStart => exact ⟨below_more (by (repeat (first | exact Below.refl _ _ | assumption | refine nw_more ?_ _ _ | refine nw_alloc ?_ _ | refine nw_drew ?_ | refine nw_drewN ?_ _ | refine nw_set ?_ (by first | (simp; done) | (simp; omega) | omega) _))), M, 0, Nat.zero_le _, rfl, Int.le_refl _, rfl, rfl⟩
        case round =>
          obtain ⟨⟨n, es, rfl⟩, m2, j, hj, hg2, hM, rfl, rfl⟩ := hrel
          obtain rfl : gk = xl.length + 1 - j := by omega
          clear hg2
          by_cases hlt2 : j < xl.length
          · by_cases hm2 : m2 < 1048576
            · obtain ⟨xp', xc', e9, -, -, hat⟩ := HAT.out
              simp only [Value.slice.injEq] at e9
              obtain ⟨rfl, -, rfl⟩ := e9
              obtain ⟨b2, o2, x, rfl, hb2, d0, d1, d2, -, -, hsz⟩ := hat j hlt2
              obtain ⟨xcc, xs, xg⟩ := x
              dsimp only at d0 d1 d2 hsz
              clear hat
              go_wp2
              go_roundg (xl.length + 1 - j - 1)
              case measure => omega
              case rel => exact ⟨below_more (by (repeat (first | exact Below.refl _ _ | assumption | refine nw_more ?_ _ _ | refine nw_alloc ?_ _ | refine nw_drew ?_ | refine nw_drewN ?_ _ | refine nw_set ?_ (by first | (simp; done) | (simp; omega) | omega) _))), _, j + 1, by omega, by omega, by omega, rfl, by go_num⟩
            · go_wp2
              go_roundg (N + 1 - k - 1)
              case measure => omega
              case rel => exact ⟨below_more (by (repeat (first | exact Below.refl _ _ | assumption | refine nw_more ?_ _ _ | refine nw_alloc ?_ _ | refine nw_drew ?_ | refine nw_drewN ?_ _ | refine nw_set ?_ (by first | (simp; done) | (simp; omega) | omega) _))), m2, k + 1, by omega, by omega, by omega, rfl, by go_num, Lib.hid (HI2.out m2 hM)⟩
          · go_wp2
            go_roundg (N + 1 - k - 1)
            case measure => omega
            case rel => exact ⟨below_more (by (repeat (first | exact Below.refl _ _ | assumption | refine nw_more ?_ _ _ | refine nw_alloc ?_ _ | refine nw_drew ?_ | refine nw_drewN ?_ _ | refine nw_set ?_ (by first | (simp; done) | (simp; omega) | omega) _))), m2, k + 1, by omega, by omega, by omega, rfl, by go_num, Lib.hid (HI2.out m2 hM)⟩
      · clear H
        go_wp2
        go_ret
        exact ⟨m, rfl, Lib.hid (fun h => by omega), by (repeat (first | exact Below.refl _ _ | assumption | refine nw_more ?_ _ _ | refine nw_alloc ?_ _ | refine nw_drew ?_ | refine nw_drewN ?_ _ | refine nw_set ?_ (by first | (simp; done) | (simp; omega) | omega) _))⟩
    · have e : k = N := by omega
      clear H
      go_wp2
      go_ret
      exact ⟨m, rfl, Lib.hid (fun h i hi => by have := HI.out i (by omega); omega), by (repeat (first | exact Below.refl _ _ | assumption | refine nw_more ?_ _ _ | refine nw_alloc ?_ _ | refine nw_drew ?_ | refine nw_drewN ?_ _ | refine nw_set ?_ (by first | (simp; done) | (simp; omega) | omega) _))⟩

theorem ChAt.one {w : World} {b : Nat} {vv : Value} {l : List Vr} (hb : b < w.heap.size) (h0 : w.cell? ⟨b, 0, none⟩ = some (.string { data := #[] })) (h1 : w.cell? ⟨b, 1, none⟩ = some vv) (h : VsAt w vv l) : ChAt w (.slice (some ⟨b, 0, none⟩) 1 1) 1 (fun _ => ⟨{ data := #[] }, vv, l⟩) := by
  refine ⟨by omega, some ⟨b, 0, none⟩, 1, rfl, fun i hi => ⟨b, 0, rfl, hb, ?_⟩⟩
  obtain rfl : i = 0 := by omega
  exact ⟨h0, h1, by show ({ data := #[] } : ByteArray).size ≤ _; decide, h⟩
theorem ChAt.slice {w : World} {v : Value} {n : Nat} {f : Nat → Cv} (h : ChAt w v n f) : ∃ p cap, v = .slice p n cap := by
  obtain ⟨-, p, cap, e, -⟩ := h; exact ⟨p, cap, e⟩

set_option maxHeartbeats 4000000 in
theorem heavy8_any (w : World) (cv vv kv : Value) (pn : Option Addr) (nn cn N L : Nat) (f : Nat → Cv) (lv : List Vr) (S : Nat → ByteArray) (hnn : nn ≤ maxLen) (hc : ChAt w cv N f) (hv : VsAt w vv lv) (hk : StrsBig w kv L S) :
    Calls Try.prog 6 #[.agg #[cv, vv, .slice pn nn cn, kv]] w fun e w' => ∃ b : Bool, e = .returned (.bool b) ∧ Hid (b = false → ∀ i, i < N → (f i).l.length ≤ 800) ∧ Below w.heap.size w w' := by
  unfold maxLen at hnn
  obtain ⟨pc, cc, rfl⟩ := hc.slice
  obtain ⟨pv, cap, rfl, hcap⟩ := hv.slice
  have hk2 := hk
  obtain ⟨pk, ck, rfl, hkL, -⟩ := hk2
  have hvl := hv.1
  have HC := Lib.hid hc
  have HV := Lib.hid hv
  have HS := Lib.hid hk
  have hN := hc.1
  clear hc hv hk
  go_enter Try.func6, Try.ntmps6
  go_wp2_with fail
  refine (tableWeight_any _ _ N f (HC.out.below (by (repeat (first | exact Below.refl _ _ | assumption | refine nw_more ?_ _ _ | refine nw_alloc ?_ _ | refine nw_drew ?_ | refine nw_drewN ?_ _ | refine nw_set ?_ (by first | (simp; done) | (simp; omega) | omega) _))))).mono ?_
  rintro e w' ⟨m, rfl, HM, hb⟩
  obtain ⟨n, es, rfl⟩ := below_more hb
  clear hb
  by_cases h1 : 800 < m
  · go_wp2
    go_ret
    exact ⟨true, rfl, Lib.hid (fun h => by cases h), by (repeat (first | exact Below.refl _ _ | assumption | refine nw_more ?_ _ _ | refine nw_alloc ?_ _ | refine nw_drew ?_ | refine nw_drewN ?_ _ | refine nw_set ?_ (by first | (simp; done) | (simp; omega) | omega) _))⟩
  have HI : Hid (∀ i, i < N → (f i).l.length ≤ 800) := Lib.hid (HM.out (by omega))
  clear HM
  by_cases h2 : 100 < (lv.length : Int)
  · go_wp2
    go_ret
    exact ⟨true, rfl, Lib.hid (fun h => by cases h), by (repeat (first | exact Below.refl _ _ | assumption | refine nw_more ?_ _ _ | refine nw_alloc ?_ _ | refine nw_drew ?_ | refine nw_drewN ?_ _ | refine nw_set ?_ (by first | (simp; done) | (simp; omega) | omega) _))⟩
  by_cases h3 : 100 < (nn : Int)
  · go_wp2
    go_ret
    exact ⟨true, rfl, Lib.hid (fun h => by cases h), by (repeat (first | exact Below.refl _ _ | assumption | refine nw_more ?_ _ _ | refine nw_alloc ?_ _ | refine nw_drew ?_ | refine nw_drewN ?_ _ | refine nw_set ?_ (by first | (simp; done) | (simp; omega) | omega) _))⟩
  go_wp2_with fail
  refine (texts_any _ _ L S (HS.out.below (by (repeat (first | exact Below.refl _ _ | assumption | refine nw_more ?_ _ _ | refine nw_alloc ?_ _ | refine nw_drew ?_ | refine nw_drewN ?_ _ | refine nw_set ?_ (by first | (simp; done) | (simp; omega) | omega) _))))).mono ?_
  rintro e w' ⟨⟨t, rfl⟩, rfl⟩
  by_cases h4 : 900 < t
  · go_wp2
    go_ret
    exact ⟨true, rfl, Lib.hid (fun h => by cases h), by (repeat (first | exact Below.refl _ _ | assumption | refine nw_more ?_ _ _ | refine nw_alloc ?_ _ | refine nw_drew ?_ | refine nw_drewN ?_ _ | refine nw_set ?_ (by first | (simp; done) | (simp; omega) | omega) _))⟩
  go_wp2_with fail
  refine (tableWeight_any _ _ 1 _ (ChAt.one (l := lv) (by simp) (by simp [go_sem]) (by simp [go_sem]) (HV.out.below (by (repeat (first | exact Below.refl _ _ | assumption | refine nw_more ?_ _ _ | refine nw_alloc ?_ _ | refine nw_drew ?_ | refine nw_drewN ?_ _ | refine nw_set ?_ (by first | (simp; done) | (simp; omega) | omega) _)))))).mono ?_
  rintro e w' ⟨m2, rfl, -, hb⟩
  obtain ⟨n2, es2, rfl⟩ := below_more hb
  clear hb
  by_cases h5 : 800 < m2
  · go_wp2
    go_ret
    exact ⟨true, rfl, Lib.hid (fun h => by cases h), by (repeat (first | exact Below.refl _ _ | assumption | refine nw_more ?_ _ _ | refine nw_alloc ?_ _ | refine nw_drew ?_ | refine nw_drewN ?_ _ | refine nw_set ?_ (by first | (simp; done) | (simp; omega) | omega) _))⟩
  go_wp2
  go_ret
  exact ⟨_, rfl, Lib.hid (fun _ => HI.out), by (repeat (first | exact Below.refl _ _ | assumption | refine nw_more ?_ _ _ | refine nw_alloc ?_ _ | refine nw_drew ?_ | refine nw_drewN ?_ _ | refine nw_set ?_ (by first | (simp; done) | (simp; omega) | omega) _))⟩
end Go.Proofs.Ytkjejmikcgjnaaa
