/- The argument of layer 1's laws, opened: a slice of strings and a slice of ranges. No condition. -/
import Derived.Test.YtogooibfphilaaaRows
import Derived.Test.YtogooibfphilaaaOpen
namespace Go.Proofs.Ytogooibfphilaaa
open Go.ChangeShapes Go.WideShapes Go.ChangeAt Go.RowKit Go.Deep Go.Joins

theorem own : ownKnob Try.prog.godebug = none := by kernel_rfl
theorem laidOut : laidOutB Try.prog = true := by kernel_rfl
theorem cellsAsk : Try.prog.cellsOf 25 = 2 := by kernel_rfl
theorem cellsStr : Try.prog.cellsOf 9 = 1 := by kernel_rfl
theorem cellsRange : Try.prog.cellsOf 28 = 3 := by kernel_rfl

theorem ask_open {H : Type} {enc : TypeId × Value → H} {W : World} {base : Nat} {v : Value} {d : DataW H} {p : List MemPlace}
    (hv : Value.okWide Try.prog W .any base 25 v) (h : DataW.Trod enc Try.prog W 0 (fun _ => true) true 25 v d p) :
    ∃ sv rv L M S R, v = .agg #[sv, rv] ∧ StrsAt W sv L S ∧ RgsAt W rv M R := by
  obtain ⟨c0, c1, y0, y1, m, rfl, -, -, hy0, hy1⟩ := open_agg2 Try.underlying25 (by kernel_rfl) cellsAsk hv h
  obtain ⟨L, S, hS⟩ := strs_open Try.underlying22 Try.underlying9 cellsStr hy0
  obtain ⟨M, R, hR⟩ := rgs_open Try.underlying23 Try.underlying28 cellsRange ⟨rfl, rfl, rfl⟩ ⟨by kernel_rfl, by kernel_rfl, by kernel_rfl⟩ Try.underlying9 Try.underlying9 Try.underlying4 hy1
  exact ⟨c0, c1, L, M, S, R, rfl, hS, hR⟩
end Go.Proofs.Ytogooibfphilaaa
