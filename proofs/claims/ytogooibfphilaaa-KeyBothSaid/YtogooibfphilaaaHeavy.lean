/- The weight of an argument of layer 1's laws: it returns. -/
import Derived.Test.YtogooibfphilaaaRows
import Derived.Test.YtogooibfphilaaaArgs
namespace Go.Proofs.Ytogooibfphilaaa
open Go.RowKit

/-- What Texts tells, r strings ahead of the end, with n so far. -/
def tw (L : Nat) (S : Nat → ByteArray) : Nat → Int → Int
  | 0, n => n
  | r + 1, n => if n < 1048576 then tw L S r (wrap64 (n + (S (L - (r + 1))).size)) else n
theorem tw_done (L : Nat) (S : Nat → ByteArray) (r : Nat) (n : Int) (h : ¬ n < 1048576) : tw L S r n = n := by
  cases r with
  | zero => rfl
  | succ r => rw [tw, if_neg h]
theorem tw_step (L : Nat) (S : Nat → ByteArray) (k : Nat) (n : Int) (hk : k < L) (h : n < 1048576) : tw L S (L - k) n = tw L S (L - (k + 1)) (wrap64 (n + (S k).size)) := by
  have e : L - k = (L - (k + 1)) + 1 := by omega
  have e2 : L - (L - (k + 1) + 1) = k := by omega
  rw [e, tw, if_pos h, e2]

set_option maxHeartbeats 400000 in
theorem texts_any (w : World) (v : Value) (L : Nat) (S : Nat → ByteArray) (h : StrsAt w v L S) :
    Calls Try.prog 21 #[v] w fun e w' => e = .returned (.int .i64 (tw L S L L)) ∧ w' = w := by
  obtain ⟨p, cap, rfl, h3, h4⟩ := h
  unfold maxLen at h3
  have H4 := Lib.hid h4
  clear h4
  go_enter Try.func21, Try.ntmps21
  go_wp2
  go_loop [3, 4] (fun n i => ∃ (m : Int) (k : Nat), k ≤ L ∧ Hid (tw L S (L - k) m = tw L S L L) ∧ n = .int .i64 m ∧ i = .int .i64 k) (fun _ i => L - (intOf i).toNat)
  case atStart => exact ⟨_, 0, Nat.zero_le _, rfl, rfl, rfl⟩
  case round =>
    obtain ⟨m, k, hk, HT, rfl, rfl⟩ := hrel
    by_cases hlt : k < L
    · by_cases hm : m < 1048576
      · obtain ⟨b, off, rfl, h2, hc, hsz⟩ := H4.out k hlt
        have HS := Lib.hid (tw_step L S k m hlt hm)
        generalize S k = s at *
        unfold maxLen at hsz
        go_wp2
        go_round
        case rel => exact ⟨_, k + 1, by omega, by rw [← HT.out, HS.out]; rfl, rfl, by go_num⟩
        case measure => simp [intOf]; omega
      · have HD := Lib.hid (tw_done L S (L - k) m hm)
        go_wp2
        go_ret
        exact ⟨ret_int (by rw [← HT.out, HD.out]), rfl⟩
    · have e : k = L := by omega
      have HE : Hid (tw L S L L = m) := by have := HT.out; rw [e, Nat.sub_self] at this; exact this.symm
      clear e
      go_wp2
      go_ret
      exact ⟨ret_int HE.out.symm, rfl⟩

set_option maxHeartbeats 1000000 in
theorem heavy_any (w : World) (sv rv : Value) (L M : Nat) (S : Nat → ByteArray) (R : Nat → Rg) (hs : StrsAt w sv L S) (hr : RgsAt w rv M R) :
    Calls Try.prog 6 #[.agg #[sv, rv]] w (SomeBool w) := by
  have HS := Lib.hid hs
  obtain ⟨p, cap, rfl, h3, h4⟩ := hr
  unfold maxLen at h3
  have H4 := Lib.hid h4
  clear hs h4
  go_enter Try.func6, Try.ntmps6
  go_wp2
  go_quiet ((go_at_call 21; exact Calls.quiet_of_same (texts_any _ _ L S (HS.out.below (by (repeat (first | exact Below.refl _ _ | assumption | refine nw_more ?_ _ _ | refine nw_alloc ?_ _ | refine nw_drew ?_ | refine nw_drewN ?_ _ | refine nw_set ?_ (by first | (simp; done) | (simp; omega) | omega) _)))))))
  go_wp2
  go_loopw [3, 4] (fun n i wr => ∃ (m : Int) (k d : Nat), k ≤ M ∧ n = .int .i64 m ∧ i = .int .i64 k ∧ wr = (w.alloc (Obj.cells #[sv, .slice p M cap] 25)).drewN d) (fun _ i _ => M - (intOf i).toNat)
  case atStart => exact ⟨_, 0, _, Nat.zero_le _, rfl, rfl, rfl⟩
  case round =>
    obtain ⟨m, k, d, hk, rfl, rfl, rfl⟩ := hrel
    by_cases hlt : k < M
    · by_cases hm : m < 1048576
      · obtain ⟨b, off, rfl, h2, hc, hc1, hc2, hz1, hz2⟩ := H4.out k hlt
        generalize R k = s at *
        unfold maxLen at hz1 hz2
        go_wp2
        go_quiet (fail)
        go_wp2
        go_roundw
        case rel => exact ⟨_, k + 1, _, by omega, rfl, by go_num, rfl⟩
        case measure => simp [intOf]; omega
      · go_wp2
        go_ret
        exact ⟨_, rfl, by (repeat (first | exact Below.refl _ _ | assumption | refine nw_more ?_ _ _ | refine nw_alloc ?_ _ | refine nw_drew ?_ | refine nw_drewN ?_ _ | refine nw_set ?_ (by first | (simp; done) | (simp; omega) | omega) _))⟩
    · go_wp2
      go_ret
      exact ⟨_, rfl, by (repeat (first | exact Below.refl _ _ | assumption | refine nw_more ?_ _ _ | refine nw_alloc ?_ _ | refine nw_drew ?_ | refine nw_drewN ?_ _ | refine nw_set ?_ (by first | (simp; done) | (simp; omega) | omega) _))⟩

end Go.Proofs.Ytogooibfphilaaa
