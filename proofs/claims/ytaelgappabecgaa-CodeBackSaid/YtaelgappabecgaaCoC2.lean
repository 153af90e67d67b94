/- Contracts: whether a record may be. No condition. -/
import Derived.Test.YtaelgappabecgaaCoC
namespace Go.Proofs.Ytaelgappabecgaa
open Go.RowKit

/-- Where the first one that fits stands. -/
def SomeIdx (w : World) (b : Bool) (e : Ending) (w' : World) : Prop := (∃ i : Int, e = .returned (.int .i64 i) ∧ decide (0 ≤ i) = b) ∧ Below w.heap.size w w'
set_option maxHeartbeats 2000000 in
theorem idxW_any (w : World) (v : Value) (l : List Wr) (h : WsAt w v l) :
    Calls Try.prog 39 #[v, .func (.func 28) #[] #[]] w (SomeIdx w (!l.all wOk)) := by
  obtain ⟨p, cap, rfl, hl, hcap, ht⟩ := h.at
  have H := Lib.hid ht
  generalize hR : l.all wOk = R
  have HR0 : Hid ((l.drop 0).all wOk = R) := Lib.hid hR
  clear h ht hR
  go_enter Try.func39, Try.ntmps39
  go_wp2
  go_loopg [8] (l.length + 1) (fun g i wr => (∃ n es, wr = more w n es) ∧ ∃ k : Nat, k ≤ l.length ∧ g + k = l.length + 1 ∧ i = .int .i64 k ∧ Hid ((l.drop k).all wOk = R))
  case atStart => exact ⟨below_more (Below.refl _ _), 0, Nat.zero_le _, rfl, rfl, HR0⟩
  case round =>
    obtain ⟨⟨n, es, rfl⟩, k, hk, hg, rfl, HT⟩ := hrel
    obtain rfl : gk = l.length + 1 - k := by omega
    clear hg
    by_cases hlt : k < l.length
    · have hkl : (k : Int) < (l.length : Int) := by omega
      obtain ⟨b, off, x, rfl, hb, hc0, hc1, hc2, hc3, hd, hxk, hsk, hsz⟩ := H.out k hlt
      obtain ⟨t, kk, s, g⟩ := x
      dsimp only at hc0 hc1 hc2 hc3 hsk hsz
      have HT' : Hid ((wOk ⟨t, kk, s, g⟩ && (l.drop (k + 1)).all wOk) = R) := Lib.hid (by have := HT.out; rw [hd, List.all_cons] at this; exact this)
      clear hd HT hxk H
      cases hv : wOk ⟨t, kk, s, g⟩
      · have HE : Hid (R = false) := Lib.hid (by rw [← HT'.out, hv]; rfl)
        have HV := Lib.hid hv
        clear hv HT'
        go_wp2_with (first | (go_at_call 28; refine (mayNot_any _ _ _ _ _ hsk hsz).mono ?_; rw [HV.out]; (rintro e w' ⟨rfl, hb⟩; obtain ⟨n, es, rfl⟩ := below_more hb; clear hb)))
        go_ret
        exact ⟨⟨k, rfl, by rw [HE.out]; simp⟩, by (repeat (first | exact Below.refl _ _ | assumption | refine nw_more ?_ _ _ | refine nw_alloc ?_ _ | refine nw_drew ?_ | refine nw_drewN ?_ _ | refine nw_set ?_ (by first | (simp; done) | (simp; omega) | omega) _))⟩
      · have HE : Hid ((l.drop (k + 1)).all wOk = R) := Lib.hid (by rw [← HT'.out, hv]; rfl)
        have HV := Lib.hid hv
        clear hv HT'
        go_wp2_with (first | (go_at_call 28; refine (mayNot_any _ _ _ _ _ hsk hsz).mono ?_; rw [HV.out]; (rintro e w' ⟨rfl, hb⟩; obtain ⟨n, es, rfl⟩ := below_more hb; clear hb)))
        go_roundg (l.length + 1 - k - 1)
        case measure => omega
        case rel => exact ⟨below_more (by (repeat (first | exact Below.refl _ _ | assumption | refine nw_more ?_ _ _ | refine nw_alloc ?_ _ | refine nw_drew ?_ | refine nw_drewN ?_ _ | refine nw_set ?_ (by first | (simp; done) | (simp; omega) | omega) _))), k + 1, by omega, by omega, by go_num, HE⟩
    · have e : k = l.length := by omega
      have hkl : ¬ (k : Int) < (l.length : Int) := by omega
      have HE : Hid (R = true) := Lib.hid (by have := HT.out; rw [e, List.drop_length] at this; rw [← this]; rfl)
      clear e HT H
      go_wp2
      go_ret
      exact ⟨⟨-1, rfl, by rw [HE.out]; rfl⟩, by (repeat (first | exact Below.refl _ _ | assumption | refine nw_more ?_ _ _ | refine nw_alloc ?_ _ | refine nw_drew ?_ | refine nw_drewN ?_ _ | refine nw_set ?_ (by first | (simp; done) | (simp; omega) | omega) _))⟩
set_option maxHeartbeats 1000000 in
theorem hasW_any (w : World) (v : Value) (l : List Wr) (h : WsAt w v l) :
    Calls Try.prog 27 #[v, .func (.func 28) #[] #[]] w fun e w' => e = .returned (.bool (!l.all wOk)) ∧ Below w.heap.size w w' := by
  go_enter Try.func27, Try.ntmps27
  go_wp2_with fail
  refine (idxW_any _ v l h).mono ?_
  rintro e w' ⟨⟨i, rfl, hi⟩, hb⟩
  obtain ⟨n, es, rfl⟩ := below_more hb
  clear hb
  cases hR : (!l.all wOk)
  · rw [hR] at hi
    have h1 : ¬ 0 ≤ i := of_decide_eq_false hi
    go_wp2
    go_ret
    exact ⟨ret_bool hR.symm, by (repeat (first | exact Below.refl _ _ | assumption | refine nw_more ?_ _ _ | refine nw_alloc ?_ _ | refine nw_drew ?_ | refine nw_drewN ?_ _ | refine nw_set ?_ (by first | (simp; done) | (simp; omega) | omega) _))⟩
  · rw [hR] at hi
    have h1 : 0 ≤ i := of_decide_eq_true hi
    go_wp2
    go_ret
    exact ⟨ret_bool hR.symm, by (repeat (first | exact Below.refl _ _ | assumption | refine nw_more ?_ _ _ | refine nw_alloc ?_ _ | refine nw_drew ?_ | refine nw_drewN ?_ _ | refine nw_set ?_ (by first | (simp; done) | (simp; omega) | omega) _))⟩
set_option maxHeartbeats 4000000 in
theorem mayBe_any (w : World) (c : Int) (v : Value) (l : List Wr) (h : WsAt w v l) :
    Calls Try.prog 18 #[.agg #[.int .i64 c, v]] w fun e w' => e = .returned (.bool (rOk c l)) ∧ Below w.heap.size w w' := by
  obtain ⟨p, cap, rfl, hcap⟩ := h.slice
  have H := Lib.hid h
  have hll := h.1
  clear h
  by_cases h1 : 1 ≤ c
  case neg =>
    have h2 : decide (1 ≤ c) = false := decide_eq_false h1
    go_enter Try.func18, Try.ntmps18
    go_wp2_with fail
    (refine wp_region_quiet_more (by kernel_rfl) (by kernel_rfl) ?_; (repeat (first | go_big_quiet_skip | quiet_step ((first | fail)))); refine wpQuiet_nil ?_; intro _ hw'; obtain ⟨⟨nq, esq⟩, hw''⟩ := hw'; subst hw''; dsimp only)
    go_wp2
    go_ret
    exact ⟨ret_bool (by unfold rOk; rw [h2]; rfl), by (repeat (first | exact Below.refl _ _ | assumption | refine nw_more ?_ _ _ | refine nw_alloc ?_ _ | refine nw_drew ?_ | refine nw_drewN ?_ _ | refine nw_set ?_ (by first | (simp; done) | (simp; omega) | omega) _))⟩
  case pos =>
  by_cases h2 : c ≤ 1073741824
  case neg =>
    have k2 : decide (c ≤ 1073741824) = false := decide_eq_false h2
    go_enter Try.func18, Try.ntmps18
    go_wp2_with fail
    (refine wp_region_quiet_more (by kernel_rfl) (by kernel_rfl) ?_; (repeat (first | go_big_quiet_skip | quiet_step ((first | fail)))); refine wpQuiet_nil ?_; intro _ hw'; obtain ⟨⟨nq, esq⟩, hw''⟩ := hw'; subst hw''; dsimp only)
    go_wp2
    go_ret
    exact ⟨ret_bool (by unfold rOk; rw [k2]; simp), by (repeat (first | exact Below.refl _ _ | assumption | refine nw_more ?_ _ _ | refine nw_alloc ?_ _ | refine nw_drew ?_ | refine nw_drewN ?_ _ | refine nw_set ?_ (by first | (simp; done) | (simp; omega) | omega) _))⟩
  case pos =>
  by_cases h3 : l.length ≤ 64
  case neg =>
    have k3 : ¬ (l.length : Int) ≤ 64 := by omega
    have k4 : decide ((l.length : Int) ≤ 64) = false := decide_eq_false k3
    go_enter Try.func18, Try.ntmps18
    go_wp2_with fail
    (refine wp_region_quiet_more (by kernel_rfl) (by kernel_rfl) ?_; (repeat (first | go_big_quiet_skip | quiet_step ((first | (go_at_call 26; exact Calls.more_same (mostWrites_any _)))))); refine wpQuiet_nil ?_; intro _ hw'; obtain ⟨⟨nq, esq⟩, hw''⟩ := hw'; subst hw''; dsimp only)
    go_wp2
    go_ret
    exact ⟨ret_bool (by unfold rOk; rw [decide_eq_false h3]; simp), by (repeat (first | exact Below.refl _ _ | assumption | refine nw_more ?_ _ _ | refine nw_alloc ?_ _ | refine nw_drew ?_ | refine nw_drewN ?_ _ | refine nw_set ?_ (by first | (simp; done) | (simp; omega) | omega) _))⟩
  case pos =>
  have k3 : (l.length : Int) ≤ 64 := by omega
  have k4 : decide ((l.length : Int) ≤ 64) = true := decide_eq_true k3
  cases hA : l.all wOk
  · have HA := Lib.hid hA
    go_enter Try.func18, Try.ntmps18
    go_wp2_with fail
    (refine wp_region_quiet_more (by kernel_rfl) (by kernel_rfl) ?_; (repeat (first | go_big_quiet_skip | quiet_step ((first | (go_at_call 26; exact Calls.more_same (mostWrites_any _)) | (go_at_call 27; exact Calls.more_bool true (by rw [HA.out]; rfl) (hasW_any _ _ l (H.out.below (by (repeat (first | exact Below.refl _ _ | assumption | refine nw_more ?_ _ _ | refine nw_alloc ?_ _ | refine nw_drew ?_ | refine nw_drewN ?_ _ | refine nw_set ?_ (by first | (simp; done) | (simp; omega) | omega) _)))))))))); refine wpQuiet_nil ?_; intro _ hw'; obtain ⟨⟨nq, esq⟩, hw''⟩ := hw'; subst hw''; dsimp only)
    go_wp2
    go_ret
    exact ⟨ret_bool (by unfold rOk; rw [hA]; simp), by (repeat (first | exact Below.refl _ _ | assumption | refine nw_more ?_ _ _ | refine nw_alloc ?_ _ | refine nw_drew ?_ | refine nw_drewN ?_ _ | refine nw_set ?_ (by first | (simp; done) | (simp; omega) | omega) _))⟩
  · have HA := Lib.hid hA
    go_enter Try.func18, Try.ntmps18
    go_wp2_with fail
    (refine wp_region_quiet_more (by kernel_rfl) (by kernel_rfl) ?_; (repeat (first | go_big_quiet_skip | quiet_step ((first | (go_at_call 26; exact Calls.more_same (mostWrites_any _)) | (go_at_call 27; exact Calls.more_bool false (by rw [HA.out]; rfl) (hasW_any _ _ l (H.out.below (by (repeat (first | exact Below.refl _ _ | assumption | refine nw_more ?_ _ _ | refine nw_alloc ?_ _ | refine nw_drew ?_ | refine nw_drewN ?_ _ | refine nw_set ?_ (by first | (simp; done) | (simp; omega) | omega) _)))))))))); refine wpQuiet_nil ?_; intro _ hw'; obtain ⟨⟨nq, esq⟩, hw''⟩ := hw'; subst hw''; dsimp only)
    go_wp2
    go_ret
    exact ⟨ret_bool (by unfold rOk; rw [hA]; simp [h1, h2, h3]), by (repeat (first | exact Below.refl _ _ | assumption | refine nw_more ?_ _ _ | refine nw_alloc ?_ _ | refine nw_drew ?_ | refine nw_drewN ?_ _ | refine nw_set ?_ (by first | (simp; done) | (simp; omega) | omega) _))⟩
end Go.Proofs.Ytaelgappabecgaa
