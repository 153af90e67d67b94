/- Layer 6's argument, opened; what the listed tables read as at the start. No condition. -/
import Derived.Test.YtaophiknldkfdaaGreatDoorRows
import Derived.Test.YtaophiknldkfdaaGreatDoorTie
import Derived.Test.YtaophiknldkfdaaGreatDoorCards
import Derived.Test.YtaophiknldkfdaaGreatDoorWPlain
import Derived.ProofKit
import Derived.LaidMore
import Derived.OpenShut
import Derived.Stop.Joined
import Derived.Deep.Slices
import Derived.Lib.SmallJoins
namespace Go.Proofs.YtaophiknldkfdaaGreatDoor
open Go.ChangeShapes Go.WideShapes Go.ChangeAt Go.RowKit Go.Deep Go.Joins

theorem own : ownKnob Tryz.prog.godebug = none := by kernel_rfl
theorem laidOut : laidOutB Tryz.prog = true := by kernel_rfl
def laids : List (String × DataW Unit) := [("math/bits.deBruijn32tab", Rows.laid_math_bits_deBruijn32tab), ("math/bits.deBruijn64tab", Rows.laid_math_bits_deBruijn64tab), ("internal/strconv.uint64pow10", Rows.laid_internal_strconv_uint64pow10)]
/-- The door's own heap meets the condition: closed facts. -/
theorem door_met (os : Os) (args : Array Value) : laidMetH Tryz.prog laids ((World.doorLaid Tryz.prog 24 os).forCall (fun _ _ => 0) ⟨#[], args, []⟩).memory :=
  laidMetH_of_parts3 (fuel := 8) (laidMet_of_run' 8 (by kernel_rfl) (by kernel_rfl)) (by kernel_rfl) (by kernel_rfl)

set_option maxRecDepth 100000 in
theorem script_shape {H : Type} {enc : TypeId × Value → H} {W : World} {base : Nat} {v : Value} {d : DataW H} {p : List MemPlace}
    (hv : Value.okWide Tryz.prog W .any base 28 v) (h : DataW.Trod enc Tryz.prog W 0 (fun _ => true) true 28 v d p) :
    ∃ c0 c1 c2 pa na ca, v = .agg #[c0, c1, c2, .slice pa na ca] ∧ na ≤ maxLen := by
  obtain ⟨cs, rfl, hcs⟩ := okWide_struct Tryz.underlying28 hv
  have hc4 : Tryz.prog.cellsOf 28 = 4 := by kernel_rfl
  obtain ⟨c0, c1, c2, c3, rfl⟩ := array4 (hcs.trans hc4)
  obtain ⟨fuel, hf⟩ := h
  obtain ⟨y0, y1, n, hx, -, h0, h1⟩ := trod_struct2 Tryz.underlying28 hf
  have hct : Tryz.prog.cellsOf 25 = 3 := by kernel_rfl
  have hca : Tryz.prog.cellsOf 26 = 1 := by kernel_rfl
  simp only [Value.cells, hct, hca, List.drop, List.take] at h0 h1
  rcases open_slice Tryz.underlying26 h1 with ⟨hcs, -⟩ | ⟨a, len, cap, m, n, D, Pl, hcs, -, hl, hm, -⟩
  · simp only [List.cons.injEq, and_true] at hcs
    subst hcs
    exact ⟨c0, c1, c2, none, 0, 0, rfl, Nat.zero_le _⟩
  · simp only [List.cons.injEq, and_true] at hcs
    subst hcs
    exact ⟨c0, c1, c2, some a, len, cap, rfl, Nat.le_trans hl hm⟩
end Go.Proofs.YtaophiknldkfdaaGreatDoor
