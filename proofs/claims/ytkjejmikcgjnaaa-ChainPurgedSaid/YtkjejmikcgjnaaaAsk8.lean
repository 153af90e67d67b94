/- The argument of layer 8's laws, opened. No condition. -/
import Derived.Test.YtkjejmikcgjnaaaRows
import Derived.Test.YtkjejmikcgjnaaaWMem
import Derived.ProofKit
import Derived.Deep.Slices
import Derived.Deep.Strs
import Derived.Lib.SmallJoins
namespace Go.Proofs.Ytkjejmikcgjnaaa
open Go.ChangeShapes Go.WideShapes Go.ChangeAt Go.RowKit Go.Deep Go.Joins

theorem own : ownKnob Try.prog.godebug = none := by kernel_rfl
theorem laidOut : laidOutB Try.prog = true := by kernel_rfl
theorem cellsAsk8 : Try.prog.cellsOf 27 = 4 := by kernel_rfl

theorem slice_shape {H : Type} {enc : TypeId × Value → H} {P : Program} {w : World} {t e : TypeId} {fuel : Nat} {v : Value} {x : DataW H × List MemPlace} (ht : P.underlying t = some (.slice e))
    (h : DataW.trod enc P w 0 (fun _ => true) true fuel t [v] = some x) : ∃ p n c, v = .slice p n c ∧ n ≤ maxLen := by
  rcases open_slice ht h with ⟨hcs, -⟩ | ⟨a, len, cap, m, n, D, Pl, hcs, -, hl, hm, -⟩
  · simp only [List.cons.injEq, and_true] at hcs
    exact ⟨none, 0, 0, hcs, Nat.zero_le _⟩
  · simp only [List.cons.injEq, and_true] at hcs
    exact ⟨some a, len, cap, hcs, Nat.le_trans hl hm⟩

set_option maxRecDepth 100000 in
theorem ask8_shape {H : Type} {enc : TypeId × Value → H} {W : World} {base : Nat} {v : Value} {d : DataW H} {p : List MemPlace}
    (hv : Value.okWide Try.prog W .any base 27 v) (h : DataW.Trod enc Try.prog W 0 (fun _ => true) true 27 v d p) :
    ∃ c0 c1 pn nn cn c3, v = .agg #[c0, c1, .slice pn nn cn, c3] ∧ nn ≤ maxLen := by
  obtain ⟨c0, c1, c2, c3, y0, y1, y2, y3, m, rfl, -, -, hy0, hy1, hy2, hy3⟩ := open_agg4 Try.underlying27 (by kernel_rfl) cellsAsk8 hv h
  obtain ⟨pn, nn, cn, rfl, hn⟩ := slice_shape Try.underlying24 hy2
  exact ⟨c0, c1, pn, nn, cn, c3, rfl, hn⟩
end Go.Proofs.Ytkjejmikcgjnaaa
