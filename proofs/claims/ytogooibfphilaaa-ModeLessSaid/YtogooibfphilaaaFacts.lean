/- Facts on the program's own types: fields of a range, two ranges held against each other. No condition. -/
import Derived.Test.YtogooibfphilaaaRows
import Derived.Test.YtogooibfphilaaaArgs
import Derived.WalkLawsBesides
namespace Go.Proofs.Ytogooibfphilaaa
open Go.RowKit

def errOf (b : Bool) : Int := match b with
  | true => 0
  | false => 1
/-- Two results: a bool, beside an error. -/
def two (ok b : Bool) : Value := match ok with
  | true => .tuple #[.bool b, .int .i64 0]
  | false => .tuple #[.bool false, .int .i64 1]
/-- Two results: a range, beside an error. -/
def rangeTwo (ok : Bool) (lo hi : ByteArray) (top : Bool) : Value := match ok with
  | true => .tuple #[.agg #[.string lo, .string hi, .bool top], .int .i64 0]
  | false => .tuple #[.agg #[.string ⟨#[]⟩, .string ⟨#[]⟩, .bool false], .int .i64 1]
@[go_sem] theorem errOf_true : errOf true = 0 := rfl
@[go_sem] theorem errOf_false : errOf false = 1 := rfl
@[go_sem] theorem two_true (b : Bool) : two true b = .tuple #[.bool b, .int .i64 0] := rfl
@[go_sem] theorem two_false (b : Bool) : two false b = .tuple #[.bool false, .int .i64 1] := rfl
@[go_sem] theorem rangeTwo_true (lo hi : ByteArray) (top : Bool) : rangeTwo true lo hi top = .tuple #[.agg #[.string lo, .string hi, .bool top], .int .i64 0] := rfl
@[go_sem] theorem rangeTwo_false (lo hi : ByteArray) (top : Bool) : rangeTwo false lo hi top = .tuple #[.agg #[.string ⟨#[]⟩, .string ⟨#[]⟩, .bool false], .int .i64 1] := rfl

@[go_sem] theorem rg_field2 (x y z : Value) (w : World) : (Instr.field 28 (.agg #[x, y, z]) 2).run Try.prog w = .ok z w := by kernel_rfl

/-- Two ranges are the same. -/
def sameR (alo ahi blo bhi : ByteArray) (atop btop : Bool) : Bool := sameB alo blo && sameB ahi bhi && (atop == btop)
theorem sameR_iff (alo ahi blo bhi : ByteArray) (atop btop : Bool) : sameR alo ahi blo bhi atop btop = true ↔ alo = blo ∧ ahi = bhi ∧ atop = btop := by
  simp [sameR, same_iff, and_assoc]
@[go_sem] theorem sameR_self (a b : ByteArray) (c : Bool) : sameR a b a b c c = true := by rw [sameR_iff]; exact ⟨rfl, rfl, rfl⟩
theorem same_list (a b : ByteArray) : a.toList = b.toList ↔ a = b := by
  rw [← same_iff]; simp [sameB]
theorem rg_neq0 (alo ahi blo bhi : ByteArray) (atop btop : Bool) (w : World) : (binOp .neq 28 (.agg #[.string alo, .string ahi, .bool atop]) (.agg #[.string blo, .string bhi, .bool btop])).run Try.prog w = .ok (.bool !(sameR alo ahi blo bhi atop btop)) w := by
  have h : sameR alo ahi blo bhi atop btop = decide (alo.toList = blo.toList ∧ ahi.toList = bhi.toList ∧ atop = btop) := by
    rw [Bool.eq_iff_iff, sameR_iff]; simp [same_list]
  rw [h]
  simp [go_sem]
  by_cases h1 : alo.toList = blo.toList <;> by_cases h2 : ahi.toList = bhi.toList <;> by_cases h3 : atop = btop <;> simp [h1, h2, h3]
attribute [go_sem] rg_neq0
theorem rg_eql0 (alo ahi blo bhi : ByteArray) (atop btop : Bool) (w : World) : (binOp .eql 28 (.agg #[.string alo, .string ahi, .bool atop]) (.agg #[.string blo, .string bhi, .bool btop])).run Try.prog w = .ok (.bool (sameR alo ahi blo bhi atop btop)) w := by
  have h : sameR alo ahi blo bhi atop btop = decide (alo.toList = blo.toList ∧ ahi.toList = bhi.toList ∧ atop = btop) := by
    rw [Bool.eq_iff_iff, sameR_iff]; simp [same_list]
  rw [h]
  simp [go_sem]
  by_cases h1 : alo.toList = blo.toList <;> by_cases h2 : ahi.toList = bhi.toList <;> by_cases h3 : atop = btop <;> simp [h1, h2, h3]
attribute [go_sem] rg_eql0
end Go.Proofs.Ytogooibfphilaaa
