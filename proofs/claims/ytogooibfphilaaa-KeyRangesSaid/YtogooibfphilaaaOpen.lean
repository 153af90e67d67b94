/- An argument's reading, opened: slices of strings and of ranges as lists in memory. No condition. -/
import Derived.Test.YtogooibfphilaaaArgs
import Derived.ProofKit
import Derived.Deep.Slices
import Derived.Deep.Strs
import Derived.Lib.SmallJoins
namespace Go.Proofs.Ytogooibfphilaaa
open Go.ChangeShapes Go.WideShapes Go.ChangeAt Go.RowKit Go.Deep

theorem cell_lt {w : World} {a : Addr} {v : Value} (h : w.cell? a = some v) : a.block < w.heap.size := by
  unfold World.cell? at h
  cases e : w.heap[a.block]? with
  | none => rw [e] at h; cases h
  | some o => exact (Array.getElem?_eq_some_iff.1 e).1

theorem add_none (b off i : Nat) : (Addr.mk b off none).add i = ⟨b, off + i, none⟩ := by
  unfold Addr.add; split
  · subst_vars; simp
  · rfl

section
variable {H : Type} {enc : TypeId × Value → H} {P : Program} {w : World}

theorem strs_open {t e : TypeId} {fuel : Nat} {v : Value} {x : DataW H × List MemPlace} (ht : P.underlying t = some (.slice e)) (he : P.underlying e = some .string) (hc : P.cellsOf e = 1)
    (h : DataW.trod enc P w 0 (fun _ => true) true fuel t [v] = some x) : ∃ L S, StrsAt w v L S := by
  rcases open_slice1 ht hc h with ⟨hcs, -⟩ | ⟨a, len, cap, m, n, V, D, Pl, hcs, -, hl, hm, hmm, -, hi⟩
  · simp only [List.cons.injEq, and_true] at hcs
    exact ⟨0, fun _ => ⟨#[]⟩, none, 0, hcs, Nat.zero_le _, fun i hi => absurd hi (Nat.not_lt_zero _)⟩
  · simp only [List.cons.injEq, and_true] at hcs
    simp only [if_true] at hmm
    subst hmm
    have hex : ∀ i, i < len → ∃ s : ByteArray, w.cell? (a.add i) = some (.string s) ∧ s.size ≤ maxLen := by
      intro i hil
      obtain ⟨h1, h2⟩ := hi i (by omega)
      obtain ⟨s, hs, -, hz⟩ := DataW.trod_string he h2
      simp only [List.cons.injEq, and_true] at hs
      exact ⟨s, by rw [h1, hs], hz⟩
    obtain ⟨S, hS⟩ := choose_lt (α := ByteArray) hex
    refine ⟨len, S, some a, m, hcs, by omega, fun i hil => ?_⟩
    obtain ⟨b, off, spot⟩ := a
    have h0 := (hS 0 (by omega)).1
    have hsp : spot = none := by have := World.cell?_spot h0; simpa [Addr.add] using this
    subst hsp
    obtain ⟨h1, h2⟩ := hS i hil
    rw [add_none] at h1
    exact ⟨b, off, rfl, by have := cell_lt h1; exact this, h1, h2⟩

theorem rgs_open {t e : TypeId} {f0 f1 f2 : Field} {fuel : Nat} {v : Value} {x : DataW H × List MemPlace} (ht : P.underlying t = some (.slice e)) (he : P.underlying e = some (.struct #[f0, f1, f2])) (hc : P.cellsOf e = 3)
    (ho : f0.offset = 0 ∧ f1.offset = 1 ∧ f2.offset = 2) (hk : P.cellsOf f0.type = 1 ∧ P.cellsOf f1.type = 1 ∧ P.cellsOf f2.type = 1)
    (h0 : P.underlying f0.type = some .string) (h1 : P.underlying f1.type = some .string) (h2 : P.underlying f2.type = some .bool)
    (h : DataW.trod enc P w 0 (fun _ => true) true fuel t [v] = some x) : ∃ L R, RgsAt w v L R := by
  rcases open_slice ht h with ⟨hcs, -⟩ | ⟨a, len, cap, m, n, D, Pl, hcs, -, hl, hm, hmm, -, hi⟩
  · simp only [List.cons.injEq, and_true] at hcs
    exact ⟨0, fun _ => ⟨⟨#[]⟩, ⟨#[]⟩, false⟩, none, 0, hcs, Nat.zero_le _, fun i hi => absurd hi (Nat.not_lt_zero _)⟩
  · simp only [List.cons.injEq, and_true] at hcs
    simp only [if_true] at hmm
    subst hmm
    rw [hc] at hi
    have hex : ∀ i, i < len → ∃ r : Rg, w.cell? (a.add (i * 3)) = some (.string r.lo) ∧ w.cell? ((a.add (i * 3)).add 1) = some (.string r.hi) ∧ w.cell? ((a.add (i * 3)).add 2) = some (.bool r.top) ∧ r.lo.size ≤ maxLen ∧ r.hi.size ≤ maxLen := by
      intro i hil
      obtain ⟨cs', hc', ht'⟩ := hi i (by omega)
      obtain ⟨y0, y1, y2, n', -, hlen, t0, t1, t2⟩ := trod_struct3 he ht'
      obtain ⟨-, hcl, hat⟩ := World.cells?_some hc'
      rw [ho.1, hk.1] at t0
      rw [ho.2.1, hk.2.1] at t1
      rw [ho.2.2, hk.2.2] at t2
      match cs', hcl with
      | [c0, c1, c2], _ =>
        obtain ⟨s0, e0, -, z0⟩ := DataW.trod_string h0 t0
        obtain ⟨s1, e1, -, z1⟩ := DataW.trod_string h1 t1
        obtain ⟨b2, e2, -⟩ := DataW.trod_bool h2 t2
        simp only [List.drop, List.take, List.cons.injEq, and_true] at e0 e1 e2
        have g0 := hat 0 (by omega)
        have g1 := hat 1 (by omega)
        have g2 := hat 2 (by omega)
        refine ⟨⟨s0, s1, b2⟩, ?_, ?_, ?_, z0, z1⟩
        · simpa [Addr.add, e0] using g0
        · simpa [e1] using g1
        · simpa [e2] using g2
    obtain ⟨R, hR⟩ := @choose_lt Rg ⟨⟨⟨#[]⟩, ⟨#[]⟩, false⟩⟩ _ _ hex
    refine ⟨len, R, some a, m, hcs, by omega, fun i hil => ?_⟩
    obtain ⟨b, off, spot⟩ := a
    have g0 := (hR 0 (by omega)).1
    have hsp : spot = none := by have := World.cell?_spot g0; simpa [Addr.add] using this
    subst hsp
    obtain ⟨k0, k1, k2, k3⟩ := hR i hil
    rw [add_none] at k0 k1 k2
    rw [add_none] at k1 k2
    exact ⟨b, off, rfl, by have := cell_lt k0; exact this, k0, k1, k2, k3⟩
end
end Go.Proofs.Ytogooibfphilaaa
