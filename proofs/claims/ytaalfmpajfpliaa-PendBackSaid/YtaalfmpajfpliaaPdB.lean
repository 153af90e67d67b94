/- Contracts: what may be pending. No condition. -/
import Derived.Test.YtaalfmpajfpliaaPdA
namespace Go.Proofs.Ytaalfmpajfpliaa
open Go.RowKit

set_option maxHeartbeats 1000000 in
theorem writesMayBe_any (w : World) (v : Value) (l : List Wr) (h : WsAt w v l) :
    Calls Try.prog 26 #[v] w fun e w' => e = .returned (.bool (l.all wOk)) ∧ Below w.heap.size w w' := by
  obtain ⟨p, cap, rfl, hl, hcap, ht⟩ := h.at
  have H := Lib.hid ht
  generalize hR : l.all wOk = R
  have HR0 := Lib.hid hR
  clear h ht hR
  go_enter Try.func26, Try.ntmps26
  go_wp2
  go_loopg [7] (l.length + 1) (fun g s7 wr => (∃ n es, wr = more w n es) ∧ ∃ (k : Nat), k ≤ l.length ∧ g + k = l.length + 1 ∧ s7 = .int .i64 k ∧ Hid ((l.drop k).all wOk = R))
  case atStart => exact ⟨below_more (Below.refl _ _), 0, Nat.zero_le _, rfl, rfl, HR0⟩
  case round =>
    obtain ⟨⟨n, es, rfl⟩, k, hk, hg, rfl, HT⟩ := hrel
    obtain rfl : gk = l.length + 1 - k := by omega
    clear hg
    by_cases hlt : k < l.length
    · obtain ⟨b, off, x, rfl, hb, hc0, hc1, hc2, hc3, hd, hxk, hsk, hsz⟩ := H.out k hlt
      obtain ⟨t, kk, s, g⟩ := x
      dsimp only at hc0 hc1 hc2 hc3 hsk hsz
      have HT' : Hid ((wOk ⟨t, kk, s, g⟩ && (l.drop (k + 1)).all wOk) = R) := Lib.hid (by have := HT.out; rw [hd, List.all_cons] at this; exact this)
      have hkl : (k : Int) < (l.length : Int) := by omega
      clear hd HT hxk H
      cases hv : wOk ⟨t, kk, s, g⟩
      · have HE : Hid (R = false) := Lib.hid (by rw [← HT'.out, hv]; rfl)
        have HV := Lib.hid hv
        clear hv HT'
        go_wp2_with (first | (go_at_call 19; refine (writeMayBe_any _ _ _ _ _ hsk hsz).mono ?_; rw [HV.out]; (rintro e w' ⟨rfl, hb⟩; obtain ⟨n, es, rfl⟩ := below_more hb; clear hb)))
        go_ret
        exact ⟨ret_bool HE.out.symm, by (repeat (first | exact Below.refl _ _ | assumption | refine nw_more ?_ _ _ | refine nw_alloc ?_ _ | refine nw_drew ?_ | refine nw_drewN ?_ _ | refine nw_set ?_ (by first | (simp; done) | (simp; omega) | omega) _))⟩
      · have HE : Hid ((l.drop (k + 1)).all wOk = R) := Lib.hid (by rw [← HT'.out, hv]; rfl)
        have HV := Lib.hid hv
        clear hv HT'
        go_wp2_with (first | (go_at_call 19; refine (writeMayBe_any _ _ _ _ _ hsk hsz).mono ?_; rw [HV.out]; (rintro e w' ⟨rfl, hb⟩; obtain ⟨n, es, rfl⟩ := below_more hb; clear hb)))
        go_roundg (l.length + 1 - k - 1)
        case measure => omega
        case rel => exact ⟨below_more (by (repeat (first | exact Below.refl _ _ | assumption | refine nw_more ?_ _ _ | refine nw_alloc ?_ _ | refine nw_drew ?_ | refine nw_drewN ?_ _ | refine nw_set ?_ (by first | (simp; done) | (simp; omega) | omega) _))), k + 1, by omega, by omega, by go_num, HE⟩
    · have e : k = l.length := by omega
      have hkl : ¬ (k : Int) < (l.length : Int) := by omega
      have HE : Hid (R = true) := Lib.hid (by have := HT.out; rw [e, List.drop_length] at this; exact this.symm)
      clear e HT H
      go_wp2
      go_ret
      exact ⟨ret_bool HE.out.symm, by (repeat (first | exact Below.refl _ _ | assumption | refine nw_more ?_ _ _ | refine nw_alloc ?_ _ | refine nw_drew ?_ | refine nw_drewN ?_ _ | refine nw_set ?_ (by first | (simp; done) | (simp; omega) | omega) _))⟩

set_option maxHeartbeats 1000000 in
theorem marksMayBe_any (w : World) (lp : Option Addr) (ln lc : Nat) (v : Value) (ms : List Int) (_hln : ln ≤ 140737488355328) (h : IntsAt w v ms) :
    Calls Try.prog 27 #[.agg #[.slice lp ln lc, v]] w fun e w' => e = .returned (.bool (mOk ln 0 ms)) ∧ Below w.heap.size w w' := by
  obtain ⟨p, cap, rfl, hl, ht⟩ := h.at
  have H := Lib.hid ht
  generalize hR : mOk ln 0 ms = R
  have HR0 := Lib.hid hR
  clear h ht hR
  go_enter Try.func27, Try.ntmps27
  go_wp2
  go_loopg [3, 9] (ms.length + 1) (fun g s3 s9 wr => (∃ n es, wr = more (w.alloc (Obj.cells #[.slice lp ln lc, .slice p ms.length cap] 25)) n es) ∧ ∃ (k : Nat) (a : Int), k ≤ ms.length ∧ g + k = ms.length + 1 ∧ s3 = .int .i64 a ∧ s9 = .int .i64 k ∧ Hid (mOk ln a (ms.drop k) = R))
  case atStart => exact ⟨below_more (Below.refl _ _), 0, 0, Nat.zero_le _, rfl, rfl, rfl, HR0⟩
  case round =>
    obtain ⟨⟨n, es, rfl⟩, k, a, hk, hg, rfl, rfl, HT⟩ := hrel
    obtain rfl : gk = ms.length + 1 - k := by omega
    clear hg
    by_cases hlt : k < ms.length
    · obtain ⟨b, off, x, rfl, hb, hc0, hd, hxk⟩ := H.out k hlt
      have HT' : Hid ((decide (a ≤ x) && (decide (x ≤ (ln : Int)) && mOk ln x (ms.drop (k + 1)))) = R) := Lib.hid (by have := HT.out; rw [hd] at this; exact this)
      have hkl : (k : Int) < (ms.length : Int) := by omega
      clear hd HT hxk H
      by_cases h1 : x < a
      · have HE : Hid (R = false) := Lib.hid (by rw [← HT'.out, decide_eq_false (by omega)]; rfl)
        clear HT'
        go_wp2
        go_ret
        exact ⟨ret_bool HE.out.symm, by (repeat (first | exact Below.refl _ _ | assumption | refine nw_more ?_ _ _ | refine nw_alloc ?_ _ | refine nw_drew ?_ | refine nw_drewN ?_ _ | refine nw_set ?_ (by first | (simp; done) | (simp; omega) | omega) _))⟩
      · by_cases h2 : (ln : Int) < x
        · have HE : Hid (R = false) := Lib.hid (by rw [← HT'.out, decide_eq_false (p := x ≤ (ln : Int)) (by omega)]; simp)
          clear HT'
          go_wp2
          go_ret
          exact ⟨ret_bool HE.out.symm, by (repeat (first | exact Below.refl _ _ | assumption | refine nw_more ?_ _ _ | refine nw_alloc ?_ _ | refine nw_drew ?_ | refine nw_drewN ?_ _ | refine nw_set ?_ (by first | (simp; done) | (simp; omega) | omega) _))⟩
        · have HE : Hid (mOk ln x (ms.drop (k + 1)) = R) := Lib.hid (by rw [← HT'.out, decide_eq_true (p := a ≤ x) (by omega), decide_eq_true (p := x ≤ (ln : Int)) (by omega)]; rfl)
          clear HT'
          go_wp2
          go_roundg (ms.length + 1 - k - 1)
          case measure => omega
          case rel => exact ⟨below_more (by (repeat (first | exact Below.refl _ _ | assumption | refine nw_more ?_ _ _ | refine nw_alloc ?_ _ | refine nw_drew ?_ | refine nw_drewN ?_ _ | refine nw_set ?_ (by first | (simp; done) | (simp; omega) | omega) _))), k + 1, x, by omega, by omega, rfl, by go_num, HE⟩
    · have e : k = ms.length := by omega
      have hkl : ¬ (k : Int) < (ms.length : Int) := by omega
      have HE : Hid (R = true) := Lib.hid (by have := HT.out; rw [e, List.drop_length] at this; exact this.symm)
      clear e HT H
      go_wp2
      go_ret
      exact ⟨ret_bool HE.out.symm, by (repeat (first | exact Below.refl _ _ | assumption | refine nw_more ?_ _ _ | refine nw_alloc ?_ _ | refine nw_drew ?_ | refine nw_drewN ?_ _ | refine nw_set ?_ (by first | (simp; done) | (simp; omega) | omega) _))⟩

set_option maxHeartbeats 1000000 in
/-- Of what may be. -/
theorem mayBe_ok (w : World) (u v : Value) (l : List Wr) (ms : List Int) (hw : WsAt w u l) (hm : IntsAt w v ms) (hok : pOk l ms = true) :
    Calls Try.prog 17 #[.agg #[u, v]] w fun e w' => e = .returned (.bool true) ∧ Below w.heap.size w w' := by
  obtain ⟨h1, h2, h3, h4⟩ := pOk_parts hok
  obtain ⟨p, cap, rfl, hcap⟩ := hw.slice
  obtain ⟨q, qc, rfl, -⟩ := hm.cap
  have HW := Lib.hid hw
  have HM := Lib.hid hm
  have H3 := Lib.hid h3
  have H4 := Lib.hid h4
  have k1 : (l.length : Int) ≤ 12 := by omega
  have k2 : (ms.length : Int) ≤ 6 := by omega
  clear hw hm h3 h4 hok
  go_enter Try.func17, Try.ntmps17
  go_wp2_with fail
  (refine wp_region_quiet_more (by kernel_rfl) (by kernel_rfl) ?_; (repeat (first | go_big_quiet_skip | quiet_step ((first | (go_at_call 20; exact Calls.more_same (mostWrites_any _)) | (go_at_call 26; exact Calls.more_bool true H3.out (writesMayBe_any _ _ l (HW.out.below (by (repeat (first | exact Below.refl _ _ | assumption | refine nw_more ?_ _ _ | refine nw_alloc ?_ _ | refine nw_drew ?_ | refine nw_drewN ?_ _ | refine nw_set ?_ (by first | (simp; done) | (simp; omega) | omega) _)))))) | (go_at_call 27; exact Calls.more_bool true H4.out (marksMayBe_any _ _ _ _ _ ms (by omega) (HM.out.below (by (repeat (first | exact Below.refl _ _ | assumption | refine nw_more ?_ _ _ | refine nw_alloc ?_ _ | refine nw_drew ?_ | refine nw_drewN ?_ _ | refine nw_set ?_ (by first | (simp; done) | (simp; omega) | omega) _)))))))))); refine wpQuiet_nil ?_; intro _ hw'; obtain ⟨⟨nq, esq⟩, hw''⟩ := hw'; subst hw''; dsimp only)
  go_wp2
  go_ret
  exact ⟨rfl, by (repeat (first | exact Below.refl _ _ | assumption | refine nw_more ?_ _ _ | refine nw_alloc ?_ _ | refine nw_drew ?_ | refine nw_drewN ?_ _ | refine nw_set ?_ (by first | (simp; done) | (simp; omega) | omega) _))⟩

set_option maxHeartbeats 1000000 in
theorem isMark_any (w : World) (u : Value) (p : Option Addr) (L cap : Nat) (n : Int) (_hL : L ≤ 140737488355328) :
    Calls Try.prog 21 #[.agg #[u, .slice p L cap], .int .i64 n] w fun e w' => e = .returned (.bool (decide (0 ≤ n) && decide (n < L))) ∧ Below w.heap.size w w' := by
  by_cases h0 : 0 ≤ n
  all_goals
    go_enter Try.func21, Try.ntmps21
    go_wp2
    go_ret
    exact ⟨ret_bool (by simp [h0] <;> omega), by (repeat (first | exact Below.refl _ _ | assumption | refine nw_more ?_ _ _ | refine nw_alloc ?_ _ | refine nw_drew ?_ | refine nw_drewN ?_ _ | refine nw_set ?_ (by first | (simp; done) | (simp; omega) | omega) _))⟩
end Go.Proofs.Ytaalfmpajfpliaa
