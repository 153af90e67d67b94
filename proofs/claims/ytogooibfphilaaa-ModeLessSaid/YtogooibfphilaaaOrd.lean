/- Plain facts on the order of byte strings: strict, total. No condition. -/
import Derived.WalkKit
import Derived.Lib.Hide
import Derived.Lib.Strings
namespace Go.Proofs.Ytogooibfphilaaa
open Go.RowKit

/-- a is below b, byte by byte. -/
def lessB (a b : ByteArray) : Bool := Op.bytesLess a.toList b.toList
def sameB (a b : ByteArray) : Bool := a.toList == b.toList
/-- The greater one, the lesser one, as Go's builtins have them. -/
def maxB (a b : ByteArray) : ByteArray := match lessB a b with
  | true => b
  | false => a
def minB (a b : ByteArray) : ByteArray := match lessB b a with
  | true => b
  | false => a

theorem bytesLess_lt : ∀ (x y : List UInt8), Op.bytesLess x y = decide (x < y)
  | [], [] => by simp [Op.bytesLess]
  | _ :: _, [] => by simp [Op.bytesLess]
  | [], _ :: _ => by simp [Op.bytesLess]
  | a :: x, b :: y => by
    rw [Op.bytesLess, bytesLess_lt x y]
    simp only [List.cons_lt_cons_iff]
    by_cases h1 : a < b <;> by_cases h2 : a = b <;> by_cases h3 : x < y <;> simp [h1, h2, h3]
theorem bytesLess_tri : ∀ (x y : List UInt8), Op.bytesLess x y = true ∨ x = y ∨ Op.bytesLess y x = true
  | [], [] => by simp
  | _ :: _, [] => by simp [Op.bytesLess]
  | [], _ :: _ => by simp [Op.bytesLess]
  | a :: x, b :: y => by
    simp only [Op.bytesLess, Bool.or_eq_true, decide_eq_true_eq, Bool.and_eq_true, beq_iff_eq, List.cons.injEq]
    have hk := bytesLess_tri x y
    have ht : a < b ∨ a = b ∨ b < a := by
      simp only [UInt8.lt_iff_toNat_lt, ← UInt8.toNat_inj]; omega
    rcases ht with h | h | h
    · exact Or.inl (Or.inl h)
    · rcases hk with g | g | g
      · exact Or.inl (Or.inr ⟨h, g⟩)
      · exact Or.inr (Or.inl ⟨h, g⟩)
      · exact Or.inr (Or.inr (Or.inr ⟨h.symm, g⟩))
    · exact Or.inr (Or.inr (Or.inl h))
theorem less_iff (a b : ByteArray) : lessB a b = true ↔ a.toList < b.toList := by
  unfold lessB; rw [bytesLess_lt]; simp
theorem less_irrefl (a : ByteArray) : lessB a a = false := by
  have h : ¬ lessB a a = true := by rw [less_iff]; exact List.lt_irrefl _
  simpa using h
theorem less_trans {a b c : ByteArray} (h : lessB a b = true) (k : lessB b c = true) : lessB a c = true := by
  rw [less_iff] at *; exact List.lt_trans h k
theorem same_iff (a b : ByteArray) : sameB a b = true ↔ a = b := by
  unfold sameB
  constructor
  · intro h
    have e := eq_of_beq h
    rw [Lib.toList_data, Lib.toList_data] at e
    exact ByteArray.ext (Array.toList_inj.1 e)
  · intro h; rw [h]; simp
theorem less_tri (a b : ByteArray) : lessB a b = true ∨ a = b ∨ lessB b a = true := by
  rcases bytesLess_tri a.toList b.toList with h | h | h
  · exact Or.inl h
  · exact Or.inr (Or.inl ((same_iff a b).1 (by unfold sameB; rw [h]; simp)))
  · exact Or.inr (Or.inr h)
theorem less_asymm {a b : ByteArray} (h : lessB a b = true) : lessB b a = false := by
  have h' : ¬ lessB b a = true := fun k => by have := less_trans h k; rw [less_irrefl] at this; cases this
  simpa using h'
/-- 'a > b', as the walk spells it. -/
theorem gtr_less (a b : ByteArray) : (!lessB a b && !sameB a b) = lessB b a := by
  rcases less_tri a b with h | h | h
  · rw [h, less_asymm h]; rfl
  · subst h; rw [less_irrefl, (same_iff a a).2 rfl]; rfl
  · rw [h, less_asymm h]
    have : sameB a b = false := by
      have : ¬ sameB a b = true := fun k => by rw [same_iff] at k; subst k; rw [less_irrefl] at h; cases h
      simpa using this
    rw [this]; rfl
/-- 'a <= b', as the walk spells it. -/
theorem leq_less (a b : ByteArray) : (lessB a b || sameB a b) = !lessB b a := by
  rw [← gtr_less a b]; cases lessB a b <;> cases sameB a b <;> rfl
/- The order of strings in the walk, by a name that the walk does not open. -/
@[go_sem] theorem bl_less (a b : ByteArray) : Op.bytesLess a.toList b.toList = lessB a b := rfl
@[go_sem] theorem bl_leq (a b : ByteArray) : (lessB a b || a.toList == b.toList) = !lessB b a := leq_less a b
@[go_sem] theorem bl_gtr (a b : ByteArray) : (!lessB a b && !(a.toList == b.toList)) = lessB b a := gtr_less a b
section
variable {P : Program} {w : World}
/-- The builtins max and min of two strings. -/
@[go_sem] theorem run_max_str2 (ts : Array TypeId) (t : TypeId) (x y : ByteArray) : (Builtin.max_ ts t #[.string x, .string y]).run P w = .ok (.string (maxB x y)) w := by
  have h : Op.bytesLess x.toList y.toList = lessB x y := rfl
  cases e : lessB x y <;> simp [Builtin.max_, Builtin.max2, Op.stringOp, asBool, maxB, h, e]
@[go_sem] theorem run_min_str2 (ts : Array TypeId) (t : TypeId) (x y : ByteArray) : (Builtin.min_ ts t #[.string x, .string y]).run P w = .ok (.string (minB x y)) w := by
  have h : Op.bytesLess x.toList y.toList = lessB x y := rfl
  have h2 : (x.toList == y.toList) = sameB x y := rfl
  have h3 := leq_less x y
  cases e : lessB y x <;> simp [Builtin.min_, Builtin.min2, Op.stringOp, asBool, minB, h, h2, h3, e]
end
end Go.Proofs.Ytogooibfphilaaa
