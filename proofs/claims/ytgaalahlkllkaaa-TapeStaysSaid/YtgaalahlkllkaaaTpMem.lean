/- Strings and puts in memory, as lists; rows of them that a call owns. No condition. -/
import Derived.Test.YtgaalahlkllkaaaPMem
import Derived.Test.YtgaalahlkllkaaaTBlc
import Derived.Test.YtgaalahlkllkaaaRows
import Derived.Test.YtgaalahlkllkaaaWQuiet
import Derived.Lib.AppendStr
import Derived.Lib.UnsafeStr
import Derived.Deep.RegionLaw
import Derived.Deep.AppendLies
import Derived.Deep.LoopGhost
import Derived.Lib.Strings
import Derived.IntWalk
namespace Go.Proofs.Ytgaalahlkllkaaa
open Go.RowKit

/-- Strings in memory, as many as an argument may hold. -/
def SsAt (w : World) (v : Value) (S : List ByteArray) : Prop :=
  S.length ≤ 140737488355328 ∧ (∀ s ∈ S, s.size ≤ 140737488355328) ∧ ∃ p cap, v = .slice p S.length cap ∧ S.length ≤ cap ∧ ∀ i, i < S.length → ∃ b off, p = some ⟨b, off, none⟩ ∧ b < w.heap.size ∧ w.cell? ⟨b, off + i, none⟩ = some (.string (S.getD i E0))
theorem SsAt.below {w w' : World} {v : Value} {S : List ByteArray} (h : SsAt w v S) (hb : Below w.heap.size w w') : SsAt w' v S := by
  obtain ⟨h0, hz, p, cap, h1, h3, h4⟩ := h
  refine ⟨h0, hz, p, cap, h1, h3, fun i hi => ?_⟩
  obtain ⟨b, off, e, h2, h5⟩ := h4 i hi
  exact ⟨b, off, e, Nat.lt_of_lt_of_le h2 hb.size, by rw [hb.cell (p := ⟨b, off + i, none⟩) h2]; exact h5⟩
theorem SsAt.slice {w : World} {v : Value} {S : List ByteArray} (h : SsAt w v S) : ∃ p cap, v = .slice p S.length cap ∧ S.length ≤ cap := by
  obtain ⟨-, -, p, cap, e, h, -⟩ := h; exact ⟨p, cap, e, h⟩
theorem SsAt.nil (w : World) (p : Option Addr) (c : Nat) : SsAt w (.slice p 0 c) [] := ⟨by simp, by simp, p, c, rfl, Nat.zero_le _, fun i hi => absurd hi (Nat.not_lt_zero _)⟩
theorem SsAt.at {w : World} {v : Value} {S : List ByteArray} (h : SsAt w v S) : ∃ p cap, v = .slice p S.length cap ∧ S.length ≤ 140737488355328 ∧ S.length ≤ cap ∧ ∀ k, k < S.length → ∃ b off s, p = some ⟨b, off, none⟩ ∧ Lt b w.heap.size ∧ w.cell? ⟨b, off + k, none⟩ = some (.string s) ∧ S.drop k = s :: S.drop (k + 1) ∧ S[k]? = some s ∧ s.size ≤ 140737488355328 := by
  obtain ⟨h0, hz, p, cap, h1, h3, h4⟩ := h
  refine ⟨p, cap, h1, h0, h3, fun k hk => ?_⟩
  obtain ⟨b, off, e, h2, h5⟩ := h4 k hk
  have hx : S[k]? = some (S.getD k E0) := by simp [List.getD, hk]
  exact ⟨b, off, _, e, h2, h5, drop_strs S k hk, hx, hz _ (List.mem_of_getElem? hx)⟩
theorem SsAt.form {w : World} {v : Value} {S : List ByteArray} (h : SsAt w v S) : (S = [] ∧ ∃ p cap, v = .slice p 0 cap) ∨
    ∃ b off cap, v = .slice (some ⟨b, off, none⟩) S.length cap ∧ 0 < S.length ∧ S.length ≤ cap ∧ b < w.heap.size ∧ ∀ j, j < S.length → w.cell? ⟨b, off + j, none⟩ = some (.string (S.getD j E0)) := by
  obtain ⟨h0, hz, p, cap, h1, h3, h4⟩ := h
  by_cases hl : S = []
  · subst hl; exact .inl ⟨rfl, p, cap, h1⟩
  · have hp : 0 < S.length := List.length_pos_iff.2 hl
    obtain ⟨b, off, e, h2, -⟩ := h4 0 hp
    refine .inr ⟨b, off, cap, by rw [h1, e], hp, h3, h2, fun j hj => ?_⟩
    obtain ⟨b', off', e', h2', h5'⟩ := h4 j hj
    rw [e] at e'
    simp only [Option.some.injEq, Addr.mk.injEq] at e'
    obtain ⟨rfl, rfl, -⟩ := e'
    exact h5'
/-- The first ones alone; all but the first ones. -/
theorem SsAt.take {w : World} {p : Option Addr} {n cap : Nat} {S : List ByteArray} (h : SsAt w (.slice p n cap) S) (m : Nat) (hm : m ≤ S.length) : SsAt w (.slice p m cap) (S.take m) := by
  obtain ⟨h0, hz, p', cap', h1, h3, h4⟩ := h
  simp only [Value.slice.injEq] at h1
  obtain ⟨rfl, rfl, rfl⟩ := h1
  have hl : (S.take m).length = m := by rw [List.length_take]; omega
  refine ⟨by omega, fun x hx => hz x (List.mem_of_mem_take hx), p, cap, by rw [hl], by omega, fun i hi => ?_⟩
  obtain ⟨b, off, e, h2, h5⟩ := h4 i (by omega)
  exact ⟨b, off, e, h2, by rw [getD_take _ _ _ _ (by omega)]; exact h5⟩
theorem getD_drop_s (S : List ByteArray) (m i : Nat) : (S.drop m).getD i E0 = S.getD (m + i) E0 := by
  simp [List.getD, List.getElem?_drop]
theorem SsAt.drop {w : World} {b off n cap : Nat} {S : List ByteArray} (h : SsAt w (.slice (some ⟨b, off, none⟩) n cap) S) (m : Nat) (hm : m ≤ S.length) : SsAt w (.slice (some ⟨b, off + m, none⟩) (n - m) (cap - m)) (S.drop m) := by
  obtain ⟨h0, hz, p', cap', h1, h3, h4⟩ := h
  simp only [Value.slice.injEq] at h1
  obtain ⟨rfl, rfl, rfl⟩ := h1
  have hl : (S.drop m).length = S.length - m := List.length_drop
  refine ⟨by omega, fun x hx => hz x (List.mem_of_mem_drop hx), _, _, by rw [hl], by omega, fun i hi => ?_⟩
  obtain ⟨b', off', e, h2, h5⟩ := h4 (m + i) (by omega)
  simp only [Option.some.injEq, Addr.mk.injEq] at e
  obtain ⟨rfl, rfl, -⟩ := e
  exact ⟨b, off + m, rfl, h2, by rw [getD_drop_s, Nat.add_assoc]; exact h5⟩
/-- A row of strings that the call owns. -/
def OwnS (B : Nat) (w : World) (v : Value) (S : List ByteArray) : Prop := w.ownsRow B 9 1 v S.length (S.map Value.string)
theorem OwnS.below {B : Nat} {w w' : World} {u : Value} {S : List ByteArray} (h : OwnS B w u S) (hb : Below w.heap.size w w') : OwnS B w' u S := own_below h hb
theorem OwnS.nil (B : Nat) (w : World) : OwnS B w (.slice none 0 0) [] := World.ownsRow_nil _ _ _ _
theorem OwnS.form {B : Nat} {w : World} {u : Value} {l : List ByteArray} (ho : OwnS B w u l) : ∃ q qc, u = .slice q l.length qc := by
  rcases ho.2 with ⟨rfl, h0⟩ | ⟨g, c, cur, rfl, -⟩
  · exact ⟨none, 0, by rw [h0]⟩
  · exact ⟨_, _, rfl⟩
theorem OwnS.snoc {B : Nat} {w : World} {v : Value} {l : List ByteArray} {y : ByteArray} (h : w.ownsRow B 9 1 v (l.length + 1) (l.map Value.string ++ [.string y])) : OwnS B w v (l ++ [y]) := by
  unfold OwnS; rw [List.length_append, List.map_append]; exact h
theorem OwnS.at {w : World} {B : Nat} {v : Value} {S : List ByteArray} (h : OwnS B w v S) (hl : S.length ≤ 140737488355328) (hz : ∀ s ∈ S, s.size ≤ 140737488355328) : SsAt w v S := by
  refine ⟨hl, hz, ?_⟩
  rcases h.2 with ⟨rfl, h0⟩ | ⟨g, cap, cur, rfl, hb, hg, hc, hm, hs, ht⟩
  · exact ⟨none, 0, by rw [h0], by omega, fun i hi => by omega⟩
  · refine ⟨some ⟨g, 0, none⟩, cap, rfl, hc, fun i hi => ⟨g, 0, rfl, (Array.getElem?_eq_some_iff.1 hg).1, ?_⟩⟩
    rw [Nat.zero_add]
    have := h.cellAt i (by omega)
    rw [this]
    simp [List.getD, hi]

/-- A put: where, its text. -/
structure Pt where
  i : Int
  s : ByteArray
instance : Inhabited Pt := ⟨⟨0, E0⟩⟩
/-- The slice v holds the puts l, two cells each, in a block below the world's end. -/
def PsAt (w : World) (v : Value) (l : List Pt) : Prop :=
  l.length ≤ 140737488355328 ∧ (∀ x ∈ l, x.s.size ≤ 140737488355328) ∧ ∃ p cap, v = .slice p l.length cap ∧ l.length ≤ cap ∧ ∀ i, i < l.length → ∃ b off, p = some ⟨b, off, none⟩ ∧ b < w.heap.size ∧ w.cell? ⟨b, off + i * 2, none⟩ = some (.int .i64 (l.getD i default).i) ∧ w.cell? ⟨b, off + i * 2 + 1, none⟩ = some (.string (l.getD i default).s)
theorem PsAt.below {w w' : World} {v : Value} {l : List Pt} (h : PsAt w v l) (hb : Below w.heap.size w w') : PsAt w' v l := by
  obtain ⟨h0, hz, p, cap, h1, h3, h4⟩ := h
  refine ⟨h0, hz, p, cap, h1, h3, fun i hi => ?_⟩
  obtain ⟨b, off, e, h2, h5, h6⟩ := h4 i hi
  exact ⟨b, off, e, Nat.lt_of_lt_of_le h2 hb.size, by rw [hb.cell (p := ⟨b, off + i * 2, none⟩) h2]; exact h5, by rw [hb.cell (p := ⟨b, off + i * 2 + 1, none⟩) h2]; exact h6⟩
theorem PsAt.slice {w : World} {v : Value} {l : List Pt} (h : PsAt w v l) : ∃ p cap, v = .slice p l.length cap ∧ l.length ≤ cap := by
  obtain ⟨-, -, p, cap, e, hc, -⟩ := h; exact ⟨p, cap, e, hc⟩
theorem PsAt.nil (w : World) (p : Option Addr) (c : Nat) : PsAt w (.slice p 0 c) [] := ⟨by simp, by simp, p, c, rfl, Nat.zero_le _, fun i hi => absurd hi (Nat.not_lt_zero _)⟩
theorem drop_ps (l : List Pt) (k : Nat) (h : k < l.length) : l.drop k = l.getD k default :: l.drop (k + 1) := by
  rw [List.drop_eq_getElem_cons h]; simp [List.getD, h]
theorem PsAt.at {w : World} {v : Value} {l : List Pt} (h : PsAt w v l) : ∃ p cap, v = .slice p l.length cap ∧ l.length ≤ 140737488355328 ∧ l.length ≤ cap ∧ ∀ k, k < l.length → ∃ b off x, p = some ⟨b, off, none⟩ ∧ Lt b w.heap.size ∧ w.cell? ⟨b, off + k * 2, none⟩ = some (.int .i64 x.i) ∧ w.cell? ⟨b, off + k * 2 + 1, none⟩ = some (.string x.s) ∧ l.drop k = x :: l.drop (k + 1) ∧ l[k]? = some x ∧ x.s.size ≤ 140737488355328 := by
  obtain ⟨h0, hz, p, cap, h1, h3, h4⟩ := h
  refine ⟨p, cap, h1, h0, h3, fun k hk => ?_⟩
  obtain ⟨b, off, e, h2, h5, h6⟩ := h4 k hk
  have hx : l[k]? = some (l.getD k default) := by simp [List.getD, hk]
  exact ⟨b, off, _, e, h2, h5, h6, drop_ps l k hk, hx, hz _ (List.mem_of_getElem? hx)⟩
/-- The cells of puts. -/
def ptCells : List Pt → List Value
  | [] => []
  | x :: r => .int .i64 x.i :: .string x.s :: ptCells r
theorem ptCells_length (l : List Pt) : (ptCells l).length = l.length * 2 := by
  induction l with
  | nil => rfl
  | cons x r ih => simp [ptCells, ih]; omega
theorem ptCells_append (l m : List Pt) : ptCells (l ++ m) = ptCells l ++ ptCells m := by
  induction l with
  | nil => rfl
  | cons x r ih => simp [ptCells, ih]
theorem ptCells_at (l : List Pt) (i : Nat) (h : i < l.length) : (ptCells l)[i * 2]? = some (.int .i64 (l.getD i default).i) ∧ (ptCells l)[i * 2 + 1]? = some (.string (l.getD i default).s) := by
  induction l generalizing i with
  | nil => simp at h
  | cons x r ih =>
    cases i with
    | zero => simp [ptCells]
    | succ i =>
      have := ih i (by simpa using h)
      rw [show (i + 1) * 2 = i * 2 + 1 + 1 by omega]
      simpa [ptCells, List.getD] using this
/-- A row of puts that the call owns. -/
def OwnP (B : Nat) (w : World) (v : Value) (l : List Pt) : Prop := w.ownsRow B 40 2 v l.length (ptCells l)
theorem OwnP.below {B : Nat} {w w' : World} {v : Value} {l : List Pt} (h : OwnP B w v l) (hb : Below w.heap.size w w') : OwnP B w' v l := own_below h hb
theorem OwnP.nil (B : Nat) (w : World) : OwnP B w (.slice none 0 0) [] := World.ownsRow_nil _ _ _ _
theorem OwnP.slice {B : Nat} {w : World} {v : Value} {l : List Pt} (h : OwnP B w v l) : ∃ p c, v = .slice p l.length c := by
  rcases h.2 with ⟨rfl, h0⟩ | ⟨g, c, cur, rfl, -⟩
  · exact ⟨none, 0, by rw [h0]⟩
  · exact ⟨_, _, rfl⟩
theorem OwnP.at {B : Nat} {w : World} {v : Value} {l : List Pt} (h : OwnP B w v l) (hl : l.length ≤ 140737488355328) (hz : ∀ x ∈ l, x.s.size ≤ 140737488355328) : PsAt w v l := by
  refine ⟨hl, hz, ?_⟩
  rcases h.2 with ⟨rfl, h0⟩ | ⟨g, cap, cur, rfl, hb, hg, hc, hm, hs, ht⟩
  · exact ⟨none, 0, by rw [h0], by omega, fun i hi => by omega⟩
  · refine ⟨some ⟨g, 0, none⟩, cap, rfl, hc, fun i hi => ⟨g, 0, rfl, (Array.getElem?_eq_some_iff.1 hg).1, ?_⟩⟩
    obtain ⟨g0, g1⟩ := ptCells_at l i hi
    rw [Nat.zero_add]
    refine ⟨?_, ?_⟩
    · rw [h.cellAt (i * 2) (by omega), g0]
    · rw [h.cellAt (i * 2 + 1) (by omega), g1]
theorem OwnP.snoc {B : Nat} {w : World} {v : Value} {l : List Pt} {y : Pt} (h : w.ownsRow B 40 2 v (l.length + 1) (ptCells l ++ [.int .i64 y.i, .string y.s])) : OwnP B w v (l ++ [y]) := by
  unfold OwnP; rw [List.length_append, ptCells_append]; exact h
theorem OwnS.cell {B : Nat} {w : World} {g cap : Nat} {l : List ByteArray} (h : OwnS B w (.slice (some ⟨g, 0, none⟩) l.length cap) l) (j : Nat) (hj : j < l.length) : w.cell? ⟨g, j, none⟩ = some (.string (l.getD j E0)) ∧ w.frozen? ⟨g, j, none⟩ = false := by
  refine ⟨?_, World.ownsRow.frozenAt h j⟩
  have := World.ownsRow.cellAt h j (by omega)
  rw [this]; simp [List.getD, hj]
theorem OwnS.set {B : Nat} {w : World} {g cap : Nat} {l : List ByteArray} (h : OwnS B w (.slice (some ⟨g, 0, none⟩) l.length cap) l) (j : Nat) (s : ByteArray) : OwnS B (w.setCell ⟨g, j, none⟩ (.string s)) (.slice (some ⟨g, 0, none⟩) l.length cap) (l.set j s) := by
  have := (World.ownsRow.stored h j (.string s)).1
  unfold OwnS
  rw [List.length_set, List.map_set]; exact this
/-- A row of strings, at an address. -/
theorem OwnS.addr {B : Nat} {w : World} {v : Value} {S : List ByteArray} (h : OwnS B w v S) (hp : 0 < S.length) : ∃ g cap, v = .slice (some ⟨g, 0, none⟩) S.length cap ∧ B ≤ g ∧ Lt g w.heap.size := by
  rcases h.2 with ⟨-, h0⟩ | ⟨g, cap, cur, rfl, hb, hg, hc, hm, hs, ht⟩
  · omega
  · exact ⟨g, cap, rfl, hb, (Array.getElem?_eq_some_iff.1 hg).1⟩
/-- A row of another type lies in another block. -/
theorem not_own {w : World} {B : Nat} {e : TypeId} {s : Nat} {v : Value} {n : Nat} {xs : List Value} (h : w.ownsRow B e s v n xs) {b : Nat} {T : TypeId} {cs : Array Value} (hb : Blc w b T cs) (hne : e ≠ T) : v.ownBlock ≠ some b := by
  rcases h.2 with ⟨rfl, -⟩ | ⟨g, cap, cur, rfl, -, hg, -⟩
  · intro h; cases h
  · intro e1
    rw [ownBlock_mk] at e1
    obtain rfl := Option.some.inj e1
    unfold Blc at hb
    rw [hg] at hb
    simp at hb
    exact hne hb.2
theorem Blc.newAt (w : World) {b : Nat} (T : TypeId) (cs : Array Value) (h : w.heap.size = b) : Blc (w.alloc (.cells cs T)) b T cs := by subst h; exact Blc.new w T cs
theorem info_put : (Try.prog.info? 40).map (fun i => (i.zero, i.size, i.bytes)) = some (some (.agg #[.int .i64 0, .string { data := #[] }]), 2, 24) := by kernel_rfl
theorem info_string : (Try.prog.info? 9).map (fun i => (i.zero, i.size, i.bytes)) = some (some (.string { data := #[] }), 1, 16) := by kernel_rfl
theorem info_parts {t : TypeId} {z : Value} {s b : Nat} (h : (Try.prog.info? t).map (fun i => (i.zero, i.size, i.bytes)) = some (some z, s, b)) : ∃ i, Try.prog.info? t = some i ∧ i.zero = some z ∧ i.size = s ∧ i.bytes = b := by
  rw [Option.map_eq_some_iff] at h
  obtain ⟨i, hi, h2⟩ := h
  simp only [Prod.mk.injEq] at h2
  exact ⟨i, hi, h2.1, h2.2.1, h2.2.2⟩
/-- What was made behind a world stays the call's own, whatever the blocks ahead of it hold. -/
theorem own_swap {X Y : World} {n m B : Nat} {es : Array Obj} {e : TypeId} {s : Nat} {v : Value} {k : Nat} {xs : List Value} (h : (more X n es).ownsRow X.heap.size e s v k xs) (hs : Y.heap.size = X.heap.size) (hB : B ≤ X.heap.size) : (more Y m es).ownsRow B e s v k xs := by
  refine ⟨h.1, ?_⟩
  rcases h.2 with h2 | ⟨g, cap, cur, hv, hb, hg, r⟩
  · exact .inl h2
  · refine .inr ⟨g, cap, cur, hv, by omega, ?_, r⟩
    simp only [more] at hg ⊢
    rw [Array.getElem?_append_right (by omega)] at hg ⊢
    rw [hs]; exact hg
end Go.Proofs.Ytgaalahlkllkaaa
