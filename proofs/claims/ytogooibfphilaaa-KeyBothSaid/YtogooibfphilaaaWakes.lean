/- wakes of layer 1's laws: true. -/
import Derived.Test.YtogooibfphilaaaKeyF
import Derived.Test.YtogooibfphilaaaHeavy
import Derived.Test.YtogooibfphilaaaFacts
namespace Go.Proofs.Ytogooibfphilaaa
open Go.RowKit

theorem meetTop_eq (ahi bhi : ByteArray) (atop btop : Bool) : meetTop ahi bhi atop btop = (atop && btop) := by
  unfold meetTop
  cases atop <;> cases btop <;> simp [aboveB]
  all_goals cases lessB bhi ahi <;> rfl
theorem end_empty {lo hi : ByteArray} (h : rangeB lo hi true = true) : hi = ⟨#[]⟩ := by
  simp [rangeB, endB] at h
  exact (same_list _ _).1 (by rw [h.2, Lib.toList_data])
theorem bothHi_eq (alo ahi blo bhi : ByteArray) (atop btop : Bool) (ha : rangeB alo ahi atop = true) (hb : rangeB blo bhi btop = true) : bothHi alo ahi blo bhi atop btop = rbothHi alo ahi blo bhi atop btop := by
  unfold bothHi rbothHi
  rw [meetTop_eq]
  cases atop <;> cases btop <;> simp [meetHi, aboveB, maxB, minB]
  · cases lessB bhi ahi <;> simp <;> split <;> simp_all
  · split <;> simp_all
  · split <;> simp_all
  · exact end_empty ha

def aS : ByteArray := ⟨#[97]⟩
theorem a_key : keyB aS = true := by decide +kernel
theorem a_range : rangeB aS (keyNext aS) false = true := by decide +kernel
theorem a_has : hasB aS (keyNext aS) false aS = true := by decide +kernel
theorem one_a (w : World) : Calls Try.prog 17 #[.string { data := #[97] }] w fun e w' => e = .returned (.tuple #[.agg #[.string aS, .string (keyNext aS), .bool false], .int .i64 0]) ∧ Below w.heap.size w w' := by
  have h := one_any aS w (by decide +kernel)
  rw [a_key] at h
  exact h
theorem has_a (w : World) : Calls Try.prog 16 #[.agg #[.string aS, .string (keyNext aS), .bool false], .string { data := #[97] }] w fun e w' => e = .returned (.tuple #[.bool true, .int .i64 0]) ∧ Below w.heap.size w w' := by
  have h := has_any aS (keyNext aS) false aS w (by decide +kernel) (by decide +kernel) (by decide +kernel)
  rw [a_range, a_key, a_has] at h
  exact h

set_option maxHeartbeats 1000000 in
theorem wakes_any (w : World) :
    Calls Try.prog 15 #[] w fun e w' => e = .returned (.bool true) ∧ Below w.heap.size w w' := by
  generalize hA : aS = a
  have h1 := fun w => one_a w
  have h2 := fun w => has_a w
  rw [hA] at h1 h2
  generalize keyNext a = b at h1 h2
  have H1 := Lib.hid h1
  have H2 := Lib.hid h2
  clear h1 h2 hA
  go_enter Try.func15, Try.ntmps15
  go_wp2_with (first | (go_at_call 17; refine (H1.out _).mono ?_; (rintro e w' ⟨rfl, hb⟩; obtain ⟨n, es, rfl⟩ := below_more hb; clear hb)) | (go_at_call 16; refine (H2.out _).mono ?_; (rintro e w' ⟨rfl, hb⟩; obtain ⟨n, es, rfl⟩ := below_more hb; clear hb)) | (go_at_call 14; refine (num_any _ _).mono ?_; rintro e w' ⟨rfl, rfl⟩) | (go_at_call 25; refine (all_any _).mono ?_; (rintro e w' ⟨rfl, hb⟩; obtain ⟨n, es, rfl⟩ := below_more hb; clear hb)))
  go_ret
  exact ⟨rfl, by (repeat (first | exact Below.refl _ _ | assumption | refine nw_more ?_ _ _ | refine nw_alloc ?_ _ | refine nw_drew ?_ | refine nw_drewN ?_ _ | refine nw_set ?_ (by first | (simp; done) | (simp; omega) | omega) _))⟩
end Go.Proofs.Ytogooibfphilaaa
