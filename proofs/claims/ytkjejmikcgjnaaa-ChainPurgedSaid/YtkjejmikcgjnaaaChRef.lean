/- Contract: the page's own word on which chains may be. No condition. -/
import Derived.Test.YtkjejmikcgjnaaaChHv
namespace Go.Proofs.Ytkjejmikcgjnaaa
open Go.RowKit

theorem ref_first {a c : Int} {v : Vr} {r : List Vr} (hc : v.c = c) (ha : a ≤ 1073741825) (h : (decide (c ≤ 1073741824) && vOk v) = false) : lOk a (v :: r) = false := by
  simp only [lOk, hc]
  simp only [Bool.and_eq_false_iff, decide_eq_false_iff_not] at h
  rcases h with h | h
  · rw [decide_eq_false (by omega)]; rfl
  · rw [h]; simp

set_option maxRecDepth 100000 in
set_option maxHeartbeats 4000000 in
theorem rChain_any (w : World) (s : ByteArray) (v : Value) (l : List Vr) (hs : s.size ≤ 140737488355328) (h : VsAt w v l) :
    Calls Try.prog 7 #[.agg #[.string s, v]] w fun e w' => e = .returned (.bool (chOk s l)) ∧ Below w.heap.size w w' := by
  obtain ⟨p, cap, rfl, hl, hcap, ht⟩ := h.at
  have H := Lib.hid ht
  have HR : Hid (chOk s l = (kB s && (decide (0 < l.length) && lOk 1073741825 l))) := Lib.hid rfl
  generalize hR : lOk 1073741825 l = R at HR
  have HR0 := Lib.hid hR
  generalize chOk s l = G at *
  clear h ht hR
  go_enter Try.func7, Try.ntmps7
  go_wp2
  go_loopg [3] (l.length + 1) (fun g s3 wr => (∃ n es, wr = more (w.alloc (Obj.cells #[.string s, .slice p l.length cap] 31)) n es) ∧ ∃ (k : Nat) (a : Int), k ≤ l.length ∧ g + k = l.length + 1 ∧ s3 = .int .i64 k ∧ Hid (a ≤ 1073741825 ∧ (k = 0 → a = 1073741825) ∧ (∀ j, k = j + 1 → ∃ y, l[j]? = some y ∧ y.c = a) ∧ lOk a (l.drop k) = R))
  case atStart => exact ⟨below_more (Below.refl _ _), 0, 1073741825, Nat.zero_le _, rfl, rfl, Lib.hid ⟨Int.le_refl _, fun _ => rfl, fun j hj => by omega, HR0.out⟩⟩
  case round =>
    obtain ⟨⟨n, es, rfl⟩, k, a, hk, hg, rfl, HT⟩ := hrel
    obtain rfl : gk = l.length + 1 - k := by omega
    clear hg
    by_cases hlt : k < l.length
    · obtain ⟨b, off, x, rfl, hb, c0, c1, c2, hd, hx, hsz⟩ := H.out k hlt
      have HT2 : Hid (a ≤ 1073741825 ∧ lOk a (x :: l.drop (k + 1)) = R) := Lib.hid ⟨HT.out.1, by rw [← hd]; exact HT.out.2.2.2⟩
      obtain ⟨c, xs, xg⟩ := x
      dsimp only at c0 c1 c2 hsz
      have hkN : (k : Int) < (l.length : Int) := by omega
      cases hv : (decide (c ≤ 1073741824) && vOk ⟨c, xs, xg⟩)
      · have HV := Lib.hid hv
        have HE : Hid (R = false) := Lib.hid (by rw [← HT2.out.2]; exact ref_first rfl HT2.out.1 hv)
        clear hv hd hx H
        go_wp2_with fail
        (refine wp_region_quiet_more (by kernel_rfl) (by kernel_rfl) ?_; (repeat (first | go_big_quiet_skip | quiet_step ((first | (go_at_call 18; exact Calls.more_bool _ HV.out (rVersion_any _ _ _ _ hsz)))))); refine wpQuiet_nil ?_; intro _ hw'; obtain ⟨⟨nq, esq⟩, hw''⟩ := hw'; subst hw''; dsimp only)
        go_wp2
        go_ret
        exact ⟨ret_bool (by rw [HR.out, HE.out]; simp), by (repeat (first | exact Below.refl _ _ | assumption | refine nw_more ?_ _ _ | refine nw_alloc ?_ _ | refine nw_drew ?_ | refine nw_drewN ?_ _ | refine nw_set ?_ (by first | (simp; done) | (simp; omega) | omega) _))⟩
      · have HV := Lib.hid hv
        simp only [Bool.and_eq_true, decide_eq_true_eq] at hv
        have HC := Lib.hid hv
        clear hv hd
        by_cases hk0 : k = 0
        · subst hk0
          simp only [Nat.zero_mul, Nat.add_zero] at c0 c1 c2
          have HE : Hid (c ≤ 1073741825 ∧ (0 + 1 = 0 → c = 1073741825) ∧ (∀ j, 0 + 1 = j + 1 → ∃ y, l[j]? = some y ∧ y.c = c) ∧ lOk c (l.drop (0 + 1)) = R) := Lib.hid ⟨by have := HC.out.1; omega, fun e => by omega, fun j hj => by (obtain rfl : j = 0 := by omega); exact ⟨_, hx, rfl⟩, by
              have h1 := HT2.out.2
              have h2 := HT.out.2.1 rfl
              have h3 := HC.out.1
              simp only [lOk] at h1
              rw [decide_eq_true (by omega), HC.out.2] at h1
              simpa using h1⟩
          have hd0 : decide ((0 : Int) < ((0 : Nat) : Int)) = false := rfl
          clear hx H
          go_wp2_with fail
          (refine wp_region_quiet_more (by kernel_rfl) (by kernel_rfl) ?_; (repeat (first | go_big_quiet_skip | quiet_step ((first | (go_at_call 18; exact Calls.more_bool _ HV.out (rVersion_any _ _ _ _ hsz)))))); refine wpQuiet_nil ?_; intro _ hw'; obtain ⟨⟨nq, esq⟩, hw''⟩ := hw'; subst hw''; dsimp only)
          go_wp2
          go_roundg (l.length + 1 - 0 - 1)
          case measure => omega
          case rel => exact ⟨below_more (by (repeat (first | exact Below.refl _ _ | assumption | refine nw_more ?_ _ _ | refine nw_alloc ?_ _ | refine nw_drew ?_ | refine nw_drewN ?_ _ | refine nw_set ?_ (by first | (simp; done) | (simp; omega) | omega) _))), 0 + 1, c, by omega, by omega, by go_num, HE⟩
        · obtain ⟨j, hkj⟩ : ∃ j, k = j + 1 := ⟨k - 1, by omega⟩
          obtain ⟨y, hy, hya⟩ := HT.out.2.2.1 j hkj
          obtain ⟨b', off', y', e9, -, d0, -, -, -, hy', -⟩ := H.out j (by omega)
          simp only [Option.some.injEq, Addr.mk.injEq, and_true] at e9
          obtain ⟨rfl, rfl⟩ := e9
          obtain rfl : y' = y := by rw [hy] at hy'; exact (Option.some.inj hy').symm
          rw [hya] at d0
          have w1 : IntKind.i64.wrap ((k : Int) - 1) = (j : Int) := by rw [IntWalk.i64_in _ (by omega)]; omega
          have hjN : (j : Int) < (l.length : Int) := by omega
          have hj0 : (0 : Int) < (k : Int) := by omega
          have hdj0 : decide ((0 : Int) < (k : Int)) = true := decide_eq_true hj0
          have hk1 : 0 < k := by omega
          have hdk : decide (0 < k) = true := decide_eq_true hk1
          have HJ := Lib.hid hkj
          clear H hy hy' hkj
          by_cases hac : a ≤ c
          · have HE : Hid (R = false) := Lib.hid (by rw [← HT2.out.2]; simp only [lOk]; rw [decide_eq_false (by omega)]; rfl)
            clear hx hya
            go_wp2_with fail
            (refine wp_region_quiet_more (by kernel_rfl) (by kernel_rfl) ?_; (repeat (first | go_big_quiet_skip | quiet_step ((first | (go_at_call 18; exact Calls.more_bool _ HV.out (rVersion_any _ _ _ _ hsz)))))); refine wpQuiet_nil ?_; intro _ hw'; obtain ⟨⟨nq, esq⟩, hw''⟩ := hw'; subst hw''; dsimp only)
            go_wp2
            go_ret
            exact ⟨ret_bool (by rw [HR.out, HE.out]; simp), by (repeat (first | exact Below.refl _ _ | assumption | refine nw_more ?_ _ _ | refine nw_alloc ?_ _ | refine nw_drew ?_ | refine nw_drewN ?_ _ | refine nw_set ?_ (by first | (simp; done) | (simp; omega) | omega) _))⟩
          · have HE : Hid (c ≤ 1073741825 ∧ (k + 1 = 0 → c = 1073741825) ∧ (∀ i, k + 1 = i + 1 → ∃ y, l[i]? = some y ∧ y.c = c) ∧ lOk c (l.drop (k + 1)) = R) := Lib.hid ⟨by have := HC.out.1; omega, fun e => by omega, fun i hi => by (obtain rfl : i = k := by omega); exact ⟨_, hx, rfl⟩, by
                have h1 := HT2.out.2
                simp only [lOk] at h1
                rw [decide_eq_true (by omega), HC.out.2] at h1
                simpa using h1⟩
            clear hx hya
            go_wp2_with fail
            (refine wp_region_quiet_more (by kernel_rfl) (by kernel_rfl) ?_; (repeat (first | go_big_quiet_skip | quiet_step ((first | (go_at_call 18; exact Calls.more_bool _ HV.out (rVersion_any _ _ _ _ hsz)))))); refine wpQuiet_nil ?_; intro _ hw'; obtain ⟨⟨nq, esq⟩, hw''⟩ := hw'; subst hw''; dsimp only)
            go_wp2
            go_roundg (l.length + 1 - k - 1)
            case measure => omega
            case rel => exact ⟨below_more (by (repeat (first | exact Below.refl _ _ | assumption | refine nw_more ?_ _ _ | refine nw_alloc ?_ _ | refine nw_drew ?_ | refine nw_drewN ?_ _ | refine nw_set ?_ (by first | (simp; done) | (simp; omega) | omega) _))), k + 1, c, by omega, by omega, by go_num, HE⟩
    · have e : k = l.length := by omega
      have HE : Hid (R = true) := Lib.hid (by have := HT.out.2.2.2; rw [e, List.drop_length] at this; exact this.symm)
      have hkN : ¬ (k : Int) < (l.length : Int) := by omega
      clear H
      cases hkb : kB s
      · have HKB := Lib.hid hkb
        go_wp2_with (first | (go_at_call 19; refine (rkey_any _ _ hs).mono ?_; rw [HKB.out]; rintro e w' ⟨rfl, rfl⟩))
        go_ret
        exact ⟨ret_bool (by rw [HR.out, HKB.out]; simp), by (repeat (first | exact Below.refl _ _ | assumption | refine nw_more ?_ _ _ | refine nw_alloc ?_ _ | refine nw_drew ?_ | refine nw_drewN ?_ _ | refine nw_set ?_ (by first | (simp; done) | (simp; omega) | omega) _))⟩
      · have HKB := Lib.hid hkb
        go_wp2_with (first | (go_at_call 19; refine (rkey_any _ _ hs).mono ?_; rw [HKB.out]; rintro e w' ⟨rfl, rfl⟩))
        go_ret
        exact ⟨ret_bool (by rw [HR.out, HE.out, HKB.out]; simp), by (repeat (first | exact Below.refl _ _ | assumption | refine nw_more ?_ _ _ | refine nw_alloc ?_ _ | refine nw_drew ?_ | refine nw_drewN ?_ _ | refine nw_set ?_ (by first | (simp; done) | (simp; omega) | omega) _))⟩
end Go.Proofs.Ytkjejmikcgjnaaa
