/- Layer 6's argument, opened; what the listed tables read as at the start. No condition. -/
import Derived.Test.YtaophiknldkfdaaGreatDoorRows
import Derived.Test.YtaophiknldkfdaaGreatDoorTie
import Derived.Test.YtaophiknldkfdaaGreatDoorCards
import Derived.Test.YtaophiknldkfdaaGreatDoorWPlain
import Derived.Test.YtaophiknldkfdaaGreatDoorTreeHw
import Derived.ProofKit
import Derived.LaidMore
import Derived.OpenShut
import Derived.Stop.Joined
import Derived.Deep.Slices
import Derived.Lib.SmallJoins
import Derived.SizedLaws
namespace Go.Proofs.YtaophiknldkfdaaGreatDoor
open Go.ChangeShapes Go.WideShapes Go.ChangeAt Go.RowKit Go.Deep Go.Joins

theorem own : ownKnob Tryz.prog.godebug = none := by kernel_rfl
theorem laidOut : laidOutB Tryz.prog = true := by kernel_rfl
def laids : List (String × DataW Unit) := [("math/bits.deBruijn32tab", Rows.laid_math_bits_deBruijn32tab), ("math/bits.deBruijn64tab", Rows.laid_math_bits_deBruijn64tab), ("internal/strconv.uint64pow10", Rows.laid_internal_strconv_uint64pow10)]
/-- The door's own heap meets the condition: closed facts. -/
theorem door_met (os : Os) (args : Array Value) : laidMetH Tryz.prog laids ((World.doorLaid Tryz.prog 24 os).forCall (fun _ _ => 0) ⟨#[], args, []⟩).memory :=
  laidMetH_of_parts3 (fuel := 8) (laidMet_of_run' 8 (by kernel_rfl) (by kernel_rfl)) (by kernel_rfl) (by kernel_rfl)

set_option maxRecDepth 100000 in
theorem script_shape {H : Type} {enc : TypeId × Value → H} {W : World} {base : Nat} {v : Value} {d : DataW H} {p : List MemPlace}
    (hv : Value.okWide Tryz.prog W .any base 28 v) (h : DataW.Trod enc Tryz.prog W 0 (fun _ => true) true 28 v d p) :
    ∃ c0 c1 c2 pa na ca, v = .agg #[c0, c1, c2, .slice pa na ca] ∧ na ≤ maxLen := by
  obtain ⟨cs, rfl, hcs⟩ := okWide_struct Tryz.underlying28 hv
  have hc4 : Tryz.prog.cellsOf 28 = 4 := by kernel_rfl
  obtain ⟨c0, c1, c2, c3, rfl⟩ := array4 (hcs.trans hc4)
  obtain ⟨fuel, hf⟩ := h
  obtain ⟨y0, y1, n, hx, -, h0, h1⟩ := trod_struct2 Tryz.underlying28 hf
  have hct : Tryz.prog.cellsOf 25 = 3 := by kernel_rfl
  have hca : Tryz.prog.cellsOf 26 = 1 := by kernel_rfl
  simp only [Value.cells, hct, hca, List.drop, List.take] at h0 h1
  rcases open_slice Tryz.underlying26 h1 with ⟨hcs, -⟩ | ⟨a, len, cap, m, n, D, Pl, hcs, -, hl, hm, -⟩
  · simp only [List.cons.injEq, and_true] at hcs
    subst hcs
    exact ⟨c0, c1, c2, none, 0, 0, rfl, Nat.zero_le _⟩
  · simp only [List.cons.injEq, and_true] at hcs
    subst hcs
    exact ⟨c0, c1, c2, some a, len, cap, rfl, Nat.le_trans hl hm⟩
end Go.Proofs.YtaophiknldkfdaaGreatDoor
/- Layer 6's argument, opened with its sizes: nodes and acts in memory. No condition. -/
namespace Go.Proofs.YtaophiknldkfdaaGreatDoor
open Go.ChangeShapes Go.WideShapes Go.ChangeAt Go.RowKit Go.Deep Go.Joins

theorem cell_lt6 {w : World} {a : Addr} {v : Value} (h : w.cell? a = some v) : a.block < w.heap.size := by
  unfold World.cell? at h
  cases e : w.heap[a.block]? with
  | none => rw [e] at h; cases h
  | some o => exact (Array.getElem?_eq_some_iff.1 e).1

section
variable {H : Type} {enc : TypeId × Value → H} {P : Program} {w : World}

/-- Each slice in it takes no more than the reach. -/
def Sized (P : Program) (t : TypeId) (d : DataW H) : Prop := ∀ n ∈ d.weights P t, n ≤ reachBytes
theorem sized_len {t e : TypeId} {el sp : List (DataW H)} (hu : P.underlying t = some (.slice e)) (hb : 1 ≤ P.bytesOf e) (h : Sized P t (.slice el sp)) : el.length ≤ reachBytes := by
  have := h ((el.length + sp.length) * P.bytesOf e) (by simp [DataW.weights, hu])
  exact Nat.le_trans (Nat.le_trans (Nat.le_add_right _ sp.length) (Nat.le_mul_of_pos_right _ hb)) this
theorem sized_two {t : TypeId} {f0 f1 : Field} {d0 d1 : DataW H} (hu : P.underlying t = some (.struct #[f0, f1])) (h : Sized P t (.agg [d0, d1])) : Sized P f0.type d0 ∧ Sized P f1.type d1 := by
  have key : ∀ n, n ∈ d0.weights P f0.type ∨ n ∈ d1.weights P f1.type → n ≤ reachBytes := fun n hn => h n (by
    simp only [DataW.weights, hu, DataW.weightsEach, List.map_cons, List.map_nil, List.mem_append, List.append_nil]
    exact hn)
  exact ⟨fun n hn => key n (.inl hn), fun n hn => key n (.inr hn)⟩

theorem slw_open {t e : TypeId} {fuel : Nat} {v : Value} {x : DataW H × List MemPlace} (ht : P.underlying t = some (.slice e))
    (h : DataW.trod enc P w 0 (fun _ => true) true fuel t [v] = some x) : SlW v := by
  rcases open_slice ht h with ⟨hcs, -⟩ | ⟨a, len, cap, m, n, D, Pl, hcs, -, hl, hm, -⟩
  · simp only [List.cons.injEq, and_true] at hcs
    exact ⟨none, 0, 0, hcs, Nat.zero_le _⟩
  · simp only [List.cons.injEq, and_true] at hcs
    exact ⟨some a, len, cap, hcs, Nat.le_trans hl hm⟩

theorem strsw_open {t e : TypeId} {fuel : Nat} {v : Value} {x : DataW H × List MemPlace} (ht : P.underlying t = some (.slice e)) (he : P.underlying e = some .string) (hc : P.cellsOf e = 1)
    (h : DataW.trod enc P w 0 (fun _ => true) true fuel t [v] = some x) : StrsW w v := by
  rcases open_slice1 ht hc h with ⟨hcs, -⟩ | ⟨a, len, cap, m, n, V, D, Pl, hcs, -, hl, hm, hmm, -, hi⟩
  · simp only [List.cons.injEq, and_true] at hcs
    exact ⟨none, 0, 0, hcs, Nat.zero_le _, fun i hi => absurd hi (Nat.not_lt_zero _)⟩
  · simp only [List.cons.injEq, and_true] at hcs
    simp only [if_true] at hmm
    subst hmm
    have hex : ∀ i, i < len → ∃ s : ByteArray, w.cell? (a.add i) = some (.string s) := by
      intro i hil
      obtain ⟨h1, h2⟩ := hi i (by omega)
      obtain ⟨s, hs, -, -⟩ := DataW.trod_string he h2
      simp only [List.cons.injEq, and_true] at hs
      exact ⟨s, by rw [h1, hs]⟩
    refine ⟨some a, len, m, hcs, by omega, fun i hil => ?_⟩
    obtain ⟨b, off, spot⟩ := a
    obtain ⟨s0, h0⟩ := hex 0 (by omega)
    have hsp : spot = none := by have := World.cell?_spot h0; simpa [Addr.add] using this
    subst hsp
    obtain ⟨s, h1⟩ := hex i hil
    rw [add_none] at h1
    exact ⟨b, off, rfl, by have := cell_lt6 h1; exact this, s, h1⟩

theorem nodes_open {t e : TypeId} {f0 f1 f2 f3 : Field} {es e1 e2 : TypeId} {fuel : Nat} {v : Value} {x : DataW H × List MemPlace} (ht : P.underlying t = some (.slice e)) (he : P.underlying e = some (.struct #[f0, f1, f2, f3])) (hc : P.cellsOf e = 4)
    (ho : f0.offset = 0 ∧ f1.offset = 1 ∧ f2.offset = 2 ∧ f3.offset = 3) (hk : P.cellsOf f0.type = 1 ∧ P.cellsOf f1.type = 1 ∧ P.cellsOf f2.type = 1)
    (h0 : P.underlying f0.type = some (.slice es)) (hes : P.underlying es = some .string) (hce : P.cellsOf es = 1) (h1 : P.underlying f1.type = some (.slice e1)) (h2 : P.underlying f2.type = some (.slice e2))
    (h : DataW.trod enc P w 0 (fun _ => true) true fuel t [v] = some x) : ∃ N, NdsW w v N := by
  rcases open_slice ht h with ⟨hcs, -⟩ | ⟨a, len, cap, m, n, D, Pl, hcs, -, hl, hm, hmm, -, hi⟩
  · simp only [List.cons.injEq, and_true] at hcs
    exact ⟨0, Nat.zero_le _, none, 0, hcs, fun i hi => absurd hi (Nat.not_lt_zero _)⟩
  · simp only [List.cons.injEq, and_true] at hcs
    simp only [if_true] at hmm
    subst hmm
    rw [hc] at hi
    have hex : ∀ i, i < len → ∃ k r c, w.cell? (a.add (i * 4)) = some k ∧ w.cell? ((a.add (i * 4)).add 1) = some r ∧ w.cell? ((a.add (i * 4)).add 2) = some c ∧ StrsW w k ∧ SlW r ∧ SlW c := by
      intro i hil
      obtain ⟨cs', hc', ht'⟩ := hi i (by omega)
      obtain ⟨y0, y1, y2, y3, n', -, hlen, t0, t1, t2, t3⟩ := trod_struct4 he ht'
      obtain ⟨-, hcl, hat⟩ := World.cells?_some hc'
      rw [ho.1, hk.1] at t0
      rw [ho.2.1, hk.2.1] at t1
      rw [ho.2.2.1, hk.2.2] at t2
      match cs', hcl with
      | [c0, c1, c2, c3], _ =>
        simp only [List.drop, List.take] at t0 t1 t2
        have g0 := hat 0 (by omega)
        have g1 := hat 1 (by omega)
        have g2 := hat 2 (by omega)
        refine ⟨c0, c1, c2, ?_, ?_, ?_, strsw_open h0 hes hce t0, slw_open h1 t1, slw_open h2 t2⟩
        · simpa [Addr.add] using g0
        · simpa using g1
        · simpa using g2
    refine ⟨len, by omega, some a, m, hcs, fun i hil => ?_⟩
    obtain ⟨b, off, spot⟩ := a
    obtain ⟨k', r', c', g0, -⟩ := hex 0 (by omega)
    have hsp : spot = none := by have := World.cell?_spot g0; simpa [Addr.add] using this
    subst hsp
    obtain ⟨k, r, c, k0, k1, k2, k3, k4, k5⟩ := hex i hil
    rw [add_none] at k0 k1 k2
    rw [add_none] at k1 k2
    exact ⟨b, off, k, r, c, rfl, by have := cell_lt6 k0; exact this, k0, k1, k2, k3, k4, k5⟩

theorem acts_open {t e : TypeId} {f0 f1 f2 : Field} {fuel : Nat} {v : Value} {x : DataW H × List MemPlace} (ht : P.underlying t = some (.slice e)) (he : P.underlying e = some (.struct #[f0, f1, f2])) (hc : P.cellsOf e = 3) (hb : 1 ≤ P.bytesOf e)
    (ho : f2.offset = 2) (hk : P.cellsOf f2.type = 1) (h2 : P.underlying f2.type = some .string)
    (h : DataW.trod enc P w 0 (fun _ => true) true fuel t [v] = some x) (hs : Sized P t x.1) : ∃ L, ActsW w v L ∧ L ≤ 140737488355328 := by
  rcases open_slice ht h with ⟨hcs, -⟩ | ⟨a, len, cap, m, n, D, Pl, hcs, -, hl, hm, hmm, hx, hi⟩
  · simp only [List.cons.injEq, and_true] at hcs
    exact ⟨0, ⟨Nat.zero_le _, none, 0, hcs, fun i hi => absurd hi (Nat.not_lt_zero _)⟩, Nat.zero_le _⟩
  · simp only [List.cons.injEq, and_true] at hcs
    simp only [if_true] at hmm
    subst hmm
    rw [hc] at hi
    rw [hx] at hs
    have hlen : len ≤ 140737488355328 := by
      have := sized_len ht hb hs
      rw [List.length_map, List.length_range] at this
      exact Nat.le_trans this (by decide)
    have hex : ∀ i, i < len → ∃ (s : ByteArray) (z : Value), w.cell? (a.add (i * 3)) = some z ∧ w.cell? ((a.add (i * 3)).add 2) = some (.string s) := by
      intro i hil
      obtain ⟨cs', hc', ht'⟩ := hi i (by omega)
      obtain ⟨y0, y1, y2, n', -, hlen', t0, t1, t2⟩ := trod_struct3 he ht'
      obtain ⟨-, hcl, hat⟩ := World.cells?_some hc'
      rw [ho, hk] at t2
      match cs', hcl with
      | [c0, c1, c2], _ =>
        obtain ⟨s, e2, -, -⟩ := DataW.trod_string h2 t2
        simp only [List.drop, List.take, List.cons.injEq, and_true] at e2
        have g0 := hat 0 (by omega)
        have g2 := hat 2 (by omega)
        exact ⟨s, c0, by simpa [Addr.add] using g0, by simpa [e2] using g2⟩
    refine ⟨len, ⟨by omega, some a, m, hcs, fun i hil => ?_⟩, hlen⟩
    obtain ⟨b, off, spot⟩ := a
    obtain ⟨s0, z0, g0, -⟩ := hex 0 (by omega)
    have hsp : spot = none := by have := World.cell?_spot g0; simpa [Addr.add] using this
    subst hsp
    obtain ⟨s, z, -, k0⟩ := hex i hil
    rw [add_none, add_none] at k0
    exact ⟨b, off, rfl, by have := cell_lt6 k0; exact this, s, k0⟩
end

set_option maxRecDepth 100000 in
theorem script_open {H : Type} {enc : TypeId × Value → H} {W : World} {base : Nat} {v : Value} {d : DataW H} {p : List MemPlace}
    (hv : Value.okWide Tryz.prog W .any base 28 v) (h : DataW.Trod enc Tryz.prog W 0 (fun _ => true) true 28 v d p) (hsz : Sized Tryz.prog 28 d) :
    ∃ nv rv fv av N L, v = .agg #[nv, rv, fv, av] ∧ NdsW W nv N ∧ SlW fv ∧ ActsW W av L ∧ L ≤ 140737488355328 := by
  obtain ⟨cs, rfl, hcs⟩ := okWide_struct Tryz.underlying28 hv
  have hc4 : Tryz.prog.cellsOf 28 = 4 := by kernel_rfl
  obtain ⟨c0, c1, c2, c3, rfl⟩ := array4 (hcs.trans hc4)
  obtain ⟨fuel, hf⟩ := h
  obtain ⟨y0, y1, n, hx, -, h0, h1⟩ := trod_struct2 Tryz.underlying28 hf
  have hd : d = .agg [y0.1, y1.1] := congrArg Prod.fst hx
  rw [hd] at hsz
  obtain ⟨-, s1⟩ := sized_two Tryz.underlying28 hsz
  have hct : Tryz.prog.cellsOf 25 = 3 := by kernel_rfl
  have hca : Tryz.prog.cellsOf 26 = 1 := by kernel_rfl
  have hcn : Tryz.prog.cellsOf 22 = 1 := by kernel_rfl
  have hci : Tryz.prog.cellsOf 3 = 1 := by kernel_rfl
  have hcl : Tryz.prog.cellsOf 23 = 1 := by kernel_rfl
  simp only [Value.cells, hct, hca, List.drop, List.take] at h0 h1
  obtain ⟨z0, z1, z2, n', -, -, g0, g1, g2⟩ := trod_struct3 Tryz.underlying25 h0
  simp only [hcn, hci, hcl, List.drop, List.take] at g0 g1 g2
  obtain ⟨N, hN⟩ := nodes_open Tryz.underlying22 Tryz.underlying53 (by kernel_rfl) ⟨rfl, rfl, rfl, rfl⟩ ⟨by kernel_rfl, by kernel_rfl, by kernel_rfl⟩ Tryz.underlying51 Tryz.underlying9 (by kernel_rfl) Tryz.underlying23 Tryz.underlying23 g0
  obtain ⟨L, hL, hLs⟩ := acts_open Tryz.underlying26 Tryz.underlying49 (by kernel_rfl) (of_decide_eq_true (by kernel_rfl)) rfl (by kernel_rfl) (by kernel_rfl) h1 s1
  exact ⟨c0, c1, c2, c3, N, L, rfl, hN, slw_open Tryz.underlying23 g2, hL, hLs⟩
end Go.Proofs.YtaophiknldkfdaaGreatDoor
