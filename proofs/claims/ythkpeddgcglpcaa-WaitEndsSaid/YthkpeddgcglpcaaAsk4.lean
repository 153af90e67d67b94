/- The argument of layer 4's laws, opened. No condition. -/
import Derived.Test.YthkpeddgcglpcaaRows
import Derived.Test.YthkpeddgcglpcaaWMem
import Derived.ProofKit
import Derived.Deep.Slices
import Derived.Deep.Strs
import Derived.Lib.SmallJoins
namespace Go.Proofs.Ythkpeddgcglpcaa
open Go.ChangeShapes Go.WideShapes Go.ChangeAt Go.RowKit Go.Deep Go.Joins

theorem own : ownKnob Try.prog.godebug = none := by kernel_rfl
theorem laidOut : laidOutB Try.prog = true := by kernel_rfl
theorem cellsAsk4 : Try.prog.cellsOf 25 = 3 := by kernel_rfl

theorem slice_shape {H : Type} {enc : TypeId × Value → H} {P : Program} {w : World} {t e : TypeId} {fuel : Nat} {v : Value} {x : DataW H × List MemPlace} (ht : P.underlying t = some (.slice e))
    (h : DataW.trod enc P w 0 (fun _ => true) true fuel t [v] = some x) : ∃ p n c, v = .slice p n c ∧ n ≤ maxLen := by
  rcases open_slice ht h with ⟨hcs, -⟩ | ⟨a, len, cap, m, n, D, Pl, hcs, -, hl, hm, -⟩
  · simp only [List.cons.injEq, and_true] at hcs
    exact ⟨none, 0, 0, hcs, Nat.zero_le _⟩
  · simp only [List.cons.injEq, and_true] at hcs
    exact ⟨some a, len, cap, hcs, Nat.le_trans hl hm⟩

set_option maxRecDepth 100000 in
theorem ask4_shape {H : Type} {enc : TypeId × Value → H} {W : World} {base : Nat} {v : Value} {d : DataW H} {p : List MemPlace}
    (hv : Value.okWide Try.prog W .any base 25 v) (h : DataW.Trod enc Try.prog W 0 (fun _ => true) true 25 v d p) :
    ∃ pl nl cl pa na ca pn nn cn, v = .agg #[.slice pl nl cl, .slice pa na ca, .slice pn nn cn] ∧ nl ≤ maxLen ∧ na ≤ maxLen ∧ nn ≤ maxLen := by
  obtain ⟨c0, c1, c2, y0, y1, y2, m, rfl, -, -, hy0, hy1, hy2⟩ := open_agg3 Try.underlying25 (by kernel_rfl) cellsAsk4 hv h
  obtain ⟨pl, nl, cl, rfl, hl⟩ := slice_shape Try.underlying22 hy0
  obtain ⟨pa, na, ca, rfl, ha⟩ := slice_shape Try.underlying23 hy1
  obtain ⟨pn, nn, cn, rfl, hn⟩ := slice_shape Try.underlying23 hy2
  exact ⟨pl, nl, cl, pa, na, ca, pn, nn, cn, rfl, hl, ha, hn⟩
end Go.Proofs.Ythkpeddgcglpcaa
