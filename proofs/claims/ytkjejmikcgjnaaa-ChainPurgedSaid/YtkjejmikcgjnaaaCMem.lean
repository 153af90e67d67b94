/- A key's versions in memory, as lists; chains in memory. No condition. -/
import Derived.Test.YtkjejmikcgjnaaaPMem
namespace Go.Proofs.Ytkjejmikcgjnaaa
open Go.RowKit

/-- A version: its commit, its value, whether it is gone. -/
structure Vr where
  c : Int
  s : ByteArray
  g : Bool
instance : Inhabited Vr := ⟨⟨0, E0, false⟩⟩
def Vr.val (x : Vr) : Value := .agg #[.int .i64 x.c, .string x.s, .bool x.g]
theorem Vr.val_mk (c : Int) (s : ByteArray) (g : Bool) : (Vr.mk c s g).val = .agg #[.int .i64 c, .string s, .bool g] := rfl
def zV : Vr := ⟨0, E0, false⟩

/-- The slice v holds the versions l, three cells each, in a block below the world's end. -/
def VsAt (w : World) (v : Value) (l : List Vr) : Prop :=
  l.length ≤ 140737488355328 ∧ (∀ x ∈ l, x.s.size ≤ 140737488355328) ∧ ∃ p cap, v = .slice p l.length cap ∧ l.length ≤ cap ∧ ∀ i, i < l.length → ∃ b off, p = some ⟨b, off, none⟩ ∧ b < w.heap.size ∧ w.cell? ⟨b, off + i * 3, none⟩ = some (.int .i64 (l.getD i default).c) ∧ w.cell? ⟨b, off + i * 3 + 1, none⟩ = some (.string (l.getD i default).s) ∧ w.cell? ⟨b, off + i * 3 + 2, none⟩ = some (.bool (l.getD i default).g)
theorem VsAt.below {w w' : World} {v : Value} {l : List Vr} (h : VsAt w v l) (hb : Below w.heap.size w w') : VsAt w' v l := by
  obtain ⟨h0, hz, p, cap, h1, h3, h4⟩ := h
  refine ⟨h0, hz, p, cap, h1, h3, fun i hi => ?_⟩
  obtain ⟨b, off, e, h2, h5, h6, h7⟩ := h4 i hi
  exact ⟨b, off, e, Nat.lt_of_lt_of_le h2 hb.size, by rw [hb.cell (p := ⟨b, off + i * 3, none⟩) h2]; exact h5, by rw [hb.cell (p := ⟨b, off + i * 3 + 1, none⟩) h2]; exact h6, by rw [hb.cell (p := ⟨b, off + i * 3 + 2, none⟩) h2]; exact h7⟩
theorem VsAt.slice {w : World} {v : Value} {l : List Vr} (h : VsAt w v l) : ∃ p cap, v = .slice p l.length cap ∧ l.length ≤ cap := by
  obtain ⟨-, -, p, cap, e, hc, -⟩ := h; exact ⟨p, cap, e, hc⟩
theorem VsAt.nil (w : World) (p : Option Addr) (c : Nat) : VsAt w (.slice p 0 c) [] := ⟨by simp, by simp, p, c, rfl, Nat.zero_le _, fun i hi => absurd hi (Nat.not_lt_zero _)⟩
theorem drop_vs (l : List Vr) (k : Nat) (h : k < l.length) : l.drop k = l.getD k default :: l.drop (k + 1) := by
  rw [List.drop_eq_getElem_cons h]; simp [List.getD, h]
/-- The k-th version, in memory and in the list. -/
theorem VsAt.at {w : World} {v : Value} {l : List Vr} (h : VsAt w v l) : ∃ p cap, v = .slice p l.length cap ∧ l.length ≤ 140737488355328 ∧ l.length ≤ cap ∧ ∀ k, k < l.length → ∃ b off x, p = some ⟨b, off, none⟩ ∧ Lt b w.heap.size ∧ w.cell? ⟨b, off + k * 3, none⟩ = some (.int .i64 x.c) ∧ w.cell? ⟨b, off + k * 3 + 1, none⟩ = some (.string x.s) ∧ w.cell? ⟨b, off + k * 3 + 2, none⟩ = some (.bool x.g) ∧ l.drop k = x :: l.drop (k + 1) ∧ l[k]? = some x ∧ x.s.size ≤ 140737488355328 := by
  obtain ⟨h0, hz, p, cap, h1, h3, h4⟩ := h
  refine ⟨p, cap, h1, h0, h3, fun k hk => ?_⟩
  obtain ⟨b, off, e, h2, h5, h6, h7⟩ := h4 k hk
  have hx : l[k]? = some (l.getD k default) := by simp [List.getD, hk]
  exact ⟨b, off, _, e, h2, h5, h6, h7, drop_vs l k hk, hx, hz _ (List.mem_of_getElem? hx)⟩
theorem getD_take_vs (l : List Vr) (s i : Nat) (h : i < s) : (l.take s).getD i default = l.getD i default := by
  simp [List.getD, List.getElem?_take, h]
/-- The first ones alone. -/
theorem VsAt.take {w : World} {p : Option Addr} {n cap : Nat} {l : List Vr} (h : VsAt w (.slice p n cap) l) (s : Nat) (hs : s ≤ l.length) : VsAt w (.slice p s cap) (l.take s) := by
  obtain ⟨h0, hz, p', cap', h1, h3, h4⟩ := h
  simp only [Value.slice.injEq] at h1
  obtain ⟨rfl, rfl, rfl⟩ := h1
  have hl : (l.take s).length = s := by rw [List.length_take]; omega
  refine ⟨by omega, fun x hx => hz x (List.mem_of_mem_take hx), p, cap, by rw [hl], by omega, fun i hi => ?_⟩
  obtain ⟨b, off, e, h2, h5, h6, h7⟩ := h4 i (by omega)
  rw [getD_take_vs _ _ _ (by omega)]
  exact ⟨b, off, e, h2, h5, h6, h7⟩
/-- The cells of versions. -/
def vCells : List Vr → List Value
  | [] => []
  | x :: r => .int .i64 x.c :: .string x.s :: .bool x.g :: vCells r
theorem vCells_length (l : List Vr) : (vCells l).length = l.length * 3 := by
  induction l with
  | nil => rfl
  | cons x r ih => simp [vCells, ih]; omega
theorem vCells_append (l m : List Vr) : vCells (l ++ m) = vCells l ++ vCells m := by
  induction l with
  | nil => rfl
  | cons x r ih => simp [vCells, ih]
theorem vCells_at (l : List Vr) (i : Nat) (h : i < l.length) : (vCells l)[i * 3]? = some (.int .i64 (l.getD i default).c) ∧ (vCells l)[i * 3 + 1]? = some (.string (l.getD i default).s) ∧ (vCells l)[i * 3 + 2]? = some (.bool (l.getD i default).g) := by
  induction l generalizing i with
  | nil => simp at h
  | cons x r ih =>
    cases i with
    | zero => simp [vCells]
    | succ i =>
      have := ih i (by simpa using h)
      rw [show (i + 1) * 3 = i * 3 + 1 + 1 + 1 by omega, show i * 3 + 1 + 1 + 1 + 1 = i * 3 + 1 + 1 + 1 + 1 from rfl, show i * 3 + 1 + 1 + 1 + 2 = i * 3 + 2 + 1 + 1 + 1 by omega]
      simpa [vCells, List.getD] using this
theorem vCells_one (l : List Vr) : ∀ u ∈ vCells l, u.oneCell' = true := by
  induction l with
  | nil => intro u hu; cases hu
  | cons x r ih =>
    intro u hu
    simp only [vCells, List.mem_cons] at hu
    rcases hu with rfl | rfl | rfl | hu
    · rfl
    · rfl
    · rfl
    · exact ih u hu
/-- The cells, read out of memory. -/
theorem vCells_mem {w : World} {b off : Nat} {cap : Nat} {l : List Vr} (h : VsAt w (.slice (some ⟨b, off, none⟩) l.length cap) l) (j : Nat) (u : Value) (hu : (vCells l)[j]? = some u) : w.cell? ((⟨b, off, none⟩ : Addr).add j) = some u := by
  obtain ⟨h0, hz, p, cap', h1, h3, h4⟩ := h
  simp only [Value.slice.injEq] at h1
  obtain ⟨rfl, -, rfl⟩ := h1
  have hj : j < l.length * 3 := by
    have := (List.getElem?_eq_some_iff.1 hu).1
    rwa [vCells_length] at this
  obtain ⟨b', off', e, h2, h5, h6, h7⟩ := h4 (j / 3) (by omega)
  simp only [Option.some.injEq, Addr.mk.injEq, and_true] at e
  obtain ⟨rfl, rfl⟩ := e
  obtain ⟨g0, g1, g2⟩ := vCells_at l (j / 3) (by omega)
  rw [Addr.add_lit]
  rcases (by omega : j = j / 3 * 3 ∨ j = j / 3 * 3 + 1 ∨ j = j / 3 * 3 + 2) with e | e | e
  · rw [e, g0] at hu; rw [e, h5, hu]
  · rw [e, g1] at hu; rw [e, ← Nat.add_assoc, h6, hu]
  · rw [e, g2] at hu; rw [e, ← Nat.add_assoc, h7, hu]
/-- A row of versions that the call owns. -/
def OwnV (B : Nat) (w : World) (v : Value) (l : List Vr) : Prop := w.ownsRow B 37 3 v l.length (vCells l)
theorem OwnV.below {B : Nat} {w w' : World} {v : Value} {l : List Vr} (h : OwnV B w v l) (hb : Below w.heap.size w w') : OwnV B w' v l := own_below h hb
theorem OwnV.at {B : Nat} {w : World} {v : Value} {l : List Vr} (h : OwnV B w v l) (hl : l.length ≤ 140737488355328) (hz : ∀ x ∈ l, x.s.size ≤ 140737488355328) : VsAt w v l := by
  refine ⟨hl, hz, ?_⟩
  rcases h.2 with ⟨rfl, h0⟩ | ⟨g, cap, cur, rfl, hb, hg, hc, hm, hs, ht⟩
  · exact ⟨none, 0, by rw [h0], by omega, fun i hi => by omega⟩
  · refine ⟨some ⟨g, 0, none⟩, cap, rfl, hc, fun i hi => ⟨g, 0, rfl, (Array.getElem?_eq_some_iff.1 hg).1, ?_⟩⟩
    obtain ⟨g0, g1, g2⟩ := vCells_at l i hi
    rw [Nat.zero_add]
    refine ⟨?_, ?_, ?_⟩
    · rw [h.cellAt (i * 3) (by omega), g0]
    · rw [h.cellAt (i * 3 + 1) (by omega), g1]
    · rw [h.cellAt (i * 3 + 2) (by omega), g2]
/-- A chain, with the slice value of its versions. -/
structure Cv where
  k : ByteArray
  v : Value
  l : List Vr
instance : Inhabited Cv := ⟨⟨E0, .slice none 0 0, []⟩⟩
/-- The slice v holds n chains, two cells each: the i-th is f i. -/
def ChAt (w : World) (v : Value) (n : Nat) (f : Nat → Cv) : Prop :=
  n ≤ 140737488355328 ∧ ∃ p cap, v = .slice p n cap ∧ ∀ i, i < n → ∃ b off, p = some ⟨b, off, none⟩ ∧ b < w.heap.size ∧ w.cell? ⟨b, off + i * 2, none⟩ = some (.string (f i).k) ∧ w.cell? ⟨b, off + i * 2 + 1, none⟩ = some (f i).v ∧ (f i).k.size ≤ 140737488355328 ∧ VsAt w (f i).v (f i).l
theorem ChAt.below {w w' : World} {v : Value} {n : Nat} {f : Nat → Cv} (h : ChAt w v n f) (hb : Below w.heap.size w w') : ChAt w' v n f := by
  obtain ⟨h0, p, cap, h1, h4⟩ := h
  refine ⟨h0, p, cap, h1, fun i hi => ?_⟩
  obtain ⟨b, off, e, h2, h5, h6, h7, h8⟩ := h4 i hi
  exact ⟨b, off, e, Nat.lt_of_lt_of_le h2 hb.size, by rw [hb.cell (p := ⟨b, off + i * 2, none⟩) h2]; exact h5, by rw [hb.cell (p := ⟨b, off + i * 2 + 1, none⟩) h2]; exact h6, h7, h8.below hb⟩
theorem ChAt.at {w : World} {v : Value} {n : Nat} {f : Nat → Cv} (h : ChAt w v n f) : ∃ p cap, v = .slice p n cap ∧ n ≤ 140737488355328 ∧ ∀ i, i < n → ∃ b off x, f i = x ∧ p = some ⟨b, off, none⟩ ∧ Lt b w.heap.size ∧ w.cell? ⟨b, off + i * 2, none⟩ = some (.string x.k) ∧ w.cell? ⟨b, off + i * 2 + 1, none⟩ = some x.v ∧ x.k.size ≤ 140737488355328 ∧ VsAt w x.v x.l := by
  obtain ⟨h0, p, cap, h1, h4⟩ := h
  refine ⟨p, cap, h1, h0, fun i hi => ?_⟩
  obtain ⟨b, off, e, h2, h5, h6, h7, h8⟩ := h4 i hi
  exact ⟨b, off, _, rfl, e, h2, h5, h6, h7, h8⟩
end Go.Proofs.Ytkjejmikcgjnaaa
