/- Layer 8's argument: its parts in memory. No condition. -/
import Derived.Test.YtkjejmikcgjnaaaOpen8
namespace Go.Proofs.Ytkjejmikcgjnaaa
open Go.ChangeShapes Go.WideShapes Go.ChangeAt Go.RowKit Go.Deep Go.Joins

set_option maxRecDepth 100000 in
theorem ask8_open {H : Type} {enc : TypeId × Value → H} {W : World} {base : Nat} {v : Value} {d : DataW H} {p : List MemPlace}
    (hv : Value.okWide Try.prog W .any base 27 v) (h : DataW.Trod enc Try.prog W 0 (fun _ => true) true 27 v d p) (hsz : Sized Try.prog 27 d) :
    ∃ cv vv kv pn nn cn N L f lv S, v = .agg #[cv, vv, .slice pn nn cn, kv] ∧ nn ≤ maxLen ∧ ChAt W cv N f ∧ VsAt W vv lv ∧ StrsBig W kv L S := by
  obtain ⟨c0, c1, c2, c3, y0, y1, y2, y3, m, rfl, hd, -, hy0, hy1, hy2, hy3⟩ := open_agg4 Try.underlying27 (by kernel_rfl) cellsAsk8 hv h
  rw [hd] at hsz
  obtain ⟨s0, s1, s2, s3⟩ := sized_four Try.underlying27 hsz
  obtain ⟨pn, nn, cn, rfl, hn⟩ := slice_shape Try.underlying24 hy2
  obtain ⟨N, f, hC⟩ := chains_open Try.underlying22 Try.underlying31 (by kernel_rfl) (of_decide_eq_true (by kernel_rfl)) ⟨rfl, rfl⟩ ⟨by kernel_rfl, by kernel_rfl⟩ (by kernel_rfl) rfl Try.underlying23 Try.underlying37 (by kernel_rfl) (of_decide_eq_true (by kernel_rfl)) ⟨rfl, rfl, rfl⟩ ⟨by kernel_rfl, by kernel_rfl, by kernel_rfl⟩ (by kernel_rfl) (by kernel_rfl) (by kernel_rfl) hy0 s0
  obtain ⟨lv, hV⟩ := versions_open Try.underlying23 Try.underlying37 (by kernel_rfl) (of_decide_eq_true (by kernel_rfl)) ⟨rfl, rfl, rfl⟩ ⟨by kernel_rfl, by kernel_rfl, by kernel_rfl⟩ (by kernel_rfl) (by kernel_rfl) (by kernel_rfl) hy1 s1
  obtain ⟨L, S, hS⟩ := strs_open Try.underlying25 Try.underlying9 (by kernel_rfl) (of_decide_eq_true (by kernel_rfl)) hy3 s3
  exact ⟨c0, c1, c3, pn, nn, cn, N, L, f, lv, S, rfl, hn, hC, hV, hS⟩
end Go.Proofs.Ytkjejmikcgjnaaa
