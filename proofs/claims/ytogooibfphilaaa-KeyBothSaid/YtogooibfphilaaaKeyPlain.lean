/- Plain facts on keys and ranges: what is in both, in one, over. No condition beyond the premises. -/
import Derived.Test.YtogooibfphilaaaWakes
namespace Go.Proofs.Ytogooibfphilaaa
open Go.RowKit

theorem next_list (s : ByteArray) : (keyNext s).toList = s.toList ++ [0] := by
  unfold keyNext
  rw [Lib.toList_data, Lib.toList_data]
  simp
theorem bytes_next : ∀ (s t : List UInt8), Op.bytesLess s t = true → Op.bytesLess t (s ++ [0]) = false
  | [], [], h => by simp [Op.bytesLess] at h
  | [], b :: y, _ => by
    simp [Op.bytesLess]
  | a :: x, [], h => by simp [Op.bytesLess] at h
  | a :: x, b :: y, h => by
    simp only [Op.bytesLess, Bool.or_eq_true, decide_eq_true_eq, Bool.and_eq_true, beq_iff_eq] at h
    simp only [List.cons_append, Op.bytesLess, Bool.or_eq_false_iff, decide_eq_false_iff_not, Bool.and_eq_false_iff, beq_eq_false_iff_ne]
    rcases h with h | ⟨rfl, h⟩
    · refine ⟨?_, Or.inl ?_⟩
      · simp only [UInt8.lt_iff_toNat_lt] at *; omega
      · intro e; subst e; simp only [UInt8.lt_iff_toNat_lt] at h; omega
    · exact ⟨by simp only [UInt8.lt_iff_toNat_lt]; omega, Or.inr (bytes_next x y h)⟩
theorem bytes_lt_next : ∀ s : List UInt8, Op.bytesLess s (s ++ [0]) = true
  | [] => rfl
  | a :: x => by simp [Op.bytesLess, bytes_lt_next x]
theorem less_next (s : ByteArray) : lessB s (keyNext s) = true := by
  unfold lessB; rw [next_list]; exact bytes_lt_next _
theorem next_least {s t : ByteArray} (h : lessB s t = true) : lessB t (keyNext s) = false := by
  unfold lessB at *; rw [next_list]; exact bytes_next _ _ h
theorem key_size {s : ByteArray} (h : keyB s = true) : 1 ≤ s.size ∧ s.size ≤ 12 := by
  simpa [keyB] using h
theorem next_size (s : ByteArray) : (keyNext s).size = s.size + 1 := by
  simp [keyNext, ByteArray.size_append]; rfl
theorem one_range {s : ByteArray} (h : keyB s = true) : rangeB s (keyNext s) false = true := by
  have := key_size h
  simp [rangeB, boundB, endB, less_asymm (less_next s), next_size]
  omega

theorem maxB_of (a b : ByteArray) : (lessB a b = true ∧ maxB a b = b) ∨ (lessB a b = false ∧ maxB a b = a) := by
  unfold maxB; cases h : lessB a b
  · exact Or.inr ⟨rfl, rfl⟩
  · exact Or.inl ⟨rfl, rfl⟩
/-- 's < max a b' just if it is below one of them. -/
theorem less_max (s a b : ByteArray) : lessB s (maxB a b) = (lessB s a || lessB s b) := by
  rcases maxB_of a b with ⟨h, e⟩ | ⟨h, e⟩ <;> rw [e]
  · cases k : lessB s a
    · simp
    · rw [less_trans k h]; rfl
  · cases k : lessB s a
    · cases l : lessB s b
      · rfl
      · have := not_less_trans l h; rw [this] at k; cases k
    · simp
theorem range_end {lo hi : ByteArray} (h : rangeB lo hi false = true) : lessB hi lo = false := by
  simp [rangeB, endB] at h; exact h.2
theorem range_bound {lo hi : ByteArray} {top : Bool} (h : rangeB lo hi top = true) : lo.size ≤ 13 ∧ hi.size ≤ 13 := by
  simp [rangeB, boundB] at h; exact ⟨h.1.1, h.1.2⟩
theorem has_def (lo hi : ByteArray) (top : Bool) (s : ByteArray) : hasB lo hi top s = (!lessB s lo && (top || lessB s hi)) := by
  unfold hasB; cases lessB s lo <;> cases top <;> rfl
theorem rboth_has (alo ahi blo bhi : ByteArray) (atop btop : Bool) (s : ByteArray) : hasB (maxB alo blo) (rbothHi alo ahi blo bhi atop btop) (atop && btop) s = (hasB alo ahi atop s && hasB blo bhi btop s) := by
  simp only [has_def, less_max]
  cases atop <;> cases btop <;> simp only [rbothHi, Bool.and_self, Bool.and_false, Bool.and_true, Bool.true_and, Bool.false_and, Bool.false_or, Bool.true_or, less_max]
  · unfold minB
    cases k : lessB bhi ahi <;> cases h1 : lessB s alo <;> cases h2 : lessB s blo <;> cases h3 : lessB s ahi <;> cases h4 : lessB s bhi <;> simp_all
    · have := not_less_trans h3 k; rw [this] at h4; cases h4
    · have := less_trans h4 k; rw [this] at h3; cases h3
  · cases lessB s alo <;> cases lessB s blo <;> cases lessB s ahi <;> rfl
  · cases lessB s alo <;> cases lessB s blo <;> cases lessB s bhi <;> rfl
  · cases lessB s alo <;> cases lessB s blo <;> rfl
theorem rboth_range (alo ahi blo bhi : ByteArray) (atop btop : Bool) (ha : rangeB alo ahi atop = true) (hb : rangeB blo bhi btop = true) : rangeB (maxB alo blo) (rbothHi alo ahi blo bhi atop btop) (atop && btop) = true := by
  have h1 := range_bound ha
  have h2 := range_bound hb
  have m1 : (maxB alo blo).size ≤ 13 := by rcases maxB_of alo blo with ⟨-, e⟩ | ⟨-, e⟩ <;> rw [e] <;> omega
  have mm : ∀ a b : ByteArray, a.size ≤ 13 → b.size ≤ 13 → (maxB a b).size ≤ 13 := fun a b x y => by rcases maxB_of a b with ⟨-, e⟩ | ⟨-, e⟩ <;> rw [e] <;> omega
  have ml : ∀ a b : ByteArray, lessB (maxB a b) b = false := fun a b => by
    rcases maxB_of a b with ⟨h, e⟩ | ⟨h, e⟩ <;> rw [e]
    · exact less_irrefl b
    · exact h
  have mn : (minB ahi bhi).size ≤ 13 := by unfold minB; cases lessB bhi ahi <;> simp <;> omega
  cases atop <;> cases btop <;> simp [rangeB, boundB, rbothHi, endB, m1, ml, mm _ _ h1.2 m1, mm _ _ h2.2 m1, mm _ _ mn m1, Lib.toList_data]
  rfl
theorem both_range (alo ahi blo bhi : ByteArray) (atop btop : Bool) (ha : rangeB alo ahi atop = true) (hb : rangeB blo bhi btop = true) : rangeB (maxB alo blo) (bothHi alo ahi blo bhi atop btop) (meetTop ahi bhi atop btop) = true := by
  rw [bothHi_eq alo ahi blo bhi atop btop ha hb, meetTop_eq]; exact rboth_range alo ahi blo bhi atop btop ha hb
theorem both_has (alo ahi blo bhi : ByteArray) (atop btop : Bool) (s : ByteArray) (ha : rangeB alo ahi atop = true) (hb : rangeB blo bhi btop = true) : hasB (maxB alo blo) (bothHi alo ahi blo bhi atop btop) (meetTop ahi bhi atop btop) s = (hasB alo ahi atop s && hasB blo bhi btop s) := by
  rw [bothHi_eq alo ahi blo bhi atop btop ha hb, meetTop_eq]; exact rboth_has alo ahi blo bhi atop btop s
theorem in_has (alo ahi blo bhi : ByteArray) (atop btop : Bool) (s : ByteArray) (h : inB alo ahi blo bhi atop btop = true) (k : hasB alo ahi atop s = true) : hasB blo bhi btop s = true := by
  rw [has_def] at *
  unfold inB at h
  cases hl : lessB alo blo
  · rw [hl] at h
    simp at h k ⊢
    refine ⟨?_, ?_⟩
    · cases e : lessB s blo
      · rfl
      · have := not_less_trans e hl; rw [this] at k; exact absurd k.1 (by simp)
    · cases atop <;> cases btop <;> simp [aboveB] at h k ⊢
      exact not_less_trans k.2 h
  · rw [hl] at h; cases h
theorem has_over (alo ahi blo bhi : ByteArray) (atop btop : Bool) (s : ByteArray) (h : hasB alo ahi atop s = true) (k : hasB blo bhi btop s = true) : overB alo ahi blo bhi atop btop = true := by
  rw [has_def] at *
  rw [overB_eq]
  have hm : ∀ t, lessB s t = true → lessB (maxB alo blo) t = true := by
    intro t ht
    simp at h k
    rcases maxB_of alo blo with ⟨-, e⟩ | ⟨-, e⟩ <;> rw [e]
    · rcases less_tri blo s with g | g | g
      · exact less_trans g ht
      · rw [g]; exact ht
      · rw [g] at k; exact absurd k.1 (by simp)
    · rcases less_tri alo s with g | g | g
      · exact less_trans g ht
      · rw [g]; exact ht
      · rw [g] at h; exact absurd h.1 (by simp)
  simp at h k ⊢
  exact ⟨h.2.imp id (hm _), k.2.imp id (hm _)⟩
theorem one_over (alo ahi : ByteArray) (atop : Bool) (s : ByteArray) : overB s (keyNext s) alo ahi false atop = hasB alo ahi atop s := by
  rw [overB_eq, has_def]
  rcases maxB_of s alo with ⟨h, e⟩ | ⟨h, e⟩ <;> rw [e, h]
  · rw [next_least h]; rfl
  · rw [less_next]; rfl
theorem one_in (alo ahi : ByteArray) (atop : Bool) (s : ByteArray) (h : inB s (keyNext s) alo ahi false atop = true) : hasB alo ahi atop s = true := by
  have := in_has s (keyNext s) alo ahi false atop s h (by rw [has_def, less_irrefl, less_next]; rfl)
  exact this
end Go.Proofs.Ytogooibfphilaaa
