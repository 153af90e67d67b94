/- Contracts, two. -/
import Derived.Test.YtogooibfphilaaaKeyA
namespace Go.Proofs.Ytogooibfphilaaa
open Go.RowKit

theorem empty_size (s : ByteArray) : s.toList = [] ↔ s.size = 0 := by
  rw [Lib.toList_data, ← ByteArray.size_data, Array.toList_eq_nil_iff, Array.size_eq_zero_iff]

theorem key_no0 (s : ByteArray) (h : s.toList = []) : (1 : Int) = errOf (keyB s) := by
  rw [empty_size] at h; simp [keyB, h, errOf]
theorem key_no (s : ByteArray) (h : s.toList.isEmpty = true ∨ 12 < (s.size : Int)) : (1 : Int) = errOf (keyB s) := by
  rcases h with h | h
  · exact key_no0 s (by simpa using h)
  · have : keyB s = false := by simp [keyB]; omega
    rw [this]; rfl
theorem key_yes (s : ByteArray) (h : s.toList.isEmpty = false ∧ (s.size : Int) ≤ 12) : (0 : Int) = errOf (keyB s) := by
  have h1 : ¬ s.toList = [] := by intro e; rw [e] at h; simp at h
  rw [empty_size] at h1
  have : keyB s = true := by simp [keyB]; omega
  rw [this]; rfl

set_option maxHeartbeats 400000 in
theorem key_any (s : ByteArray) (w : World) (hs : s.size ≤ maxLen) :
    Calls Try.prog 26 #[.string s] w fun e w' => e = .returned (.int .i64 (errOf (keyB s))) ∧ w = w' := by
  unfold maxLen at hs
  go_enter Try.func26, Try.ntmps26
  go_wp2
  all_goals go_ret
  · exact ⟨ret_int (key_no0 s ‹_›), rfl⟩
  · exact ⟨ret_int (key_no s ‹_›), rfl⟩
  · exact ⟨ret_int (key_yes s ‹_›), rfl⟩

def noneB (lo hi : ByteArray) (top : Bool) : Bool := match top with
  | true => false
  | false => sameB lo hi

def aboveB (ahi bhi : ByteArray) (atop btop : Bool) : Bool := match atop, btop with
  | false, false => lessB bhi ahi
  | false, true => false
  | true, false => true
  | true, true => false

set_option maxHeartbeats 400000 in
theorem endsAbove_any (alo ahi blo bhi : ByteArray) (atop btop : Bool) (w : World) :
    Calls Try.prog 24 #[.agg #[.string alo, .string ahi, .bool atop], .agg #[.string blo, .string bhi, .bool btop]] w fun e w' => e = .returned (.bool (aboveB ahi bhi atop btop)) ∧ Below w.heap.size w w' := by
  cases atop <;> cases btop
  all_goals
    go_enter Try.func24, Try.ntmps24
    go_wp2
    go_ret
    exact ⟨rfl, by (repeat (first | exact Below.refl _ _ | assumption | refine nw_more ?_ _ _ | refine nw_alloc ?_ _ | refine nw_drew ?_ | refine nw_drewN ?_ _ | refine nw_set ?_ (by first | (simp; done) | (simp; omega) | omega) _))⟩

def meetLo (alo blo : ByteArray) : ByteArray := maxB alo blo
def meetHi (ahi bhi : ByteArray) (atop btop : Bool) : ByteArray := match aboveB ahi bhi atop btop with
  | true => bhi
  | false => ahi
def meetTop (ahi bhi : ByteArray) (atop btop : Bool) : Bool := match aboveB ahi bhi atop btop with
  | true => btop
  | false => atop

end Go.Proofs.Ytogooibfphilaaa
