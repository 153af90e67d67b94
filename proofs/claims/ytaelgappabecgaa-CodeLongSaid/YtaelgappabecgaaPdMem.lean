/- Writes in memory, as lists; numbers in memory, many or few. No condition. -/
import Derived.Test.YtaelgappabecgaaPMem
namespace Go.Proofs.Ytaelgappabecgaa
open Go.RowKit

/-- A write: its table, its key, its value, whether it is gone. -/
structure Wr where
  t : Int
  k : ByteArray
  s : ByteArray
  g : Bool
instance : Inhabited Wr := ⟨⟨0, E0, E0, false⟩⟩

/-- The slice v holds the writes l, four cells each, in a block below the world's end. -/
def WsAt (w : World) (v : Value) (l : List Wr) : Prop :=
  l.length ≤ 140737488355328 ∧ (∀ x ∈ l, x.k.size ≤ 140737488355328 ∧ x.s.size ≤ 140737488355328) ∧ ∃ p cap, v = .slice p l.length cap ∧ l.length ≤ cap ∧ ∀ i, i < l.length → ∃ b off, p = some ⟨b, off, none⟩ ∧ b < w.heap.size ∧ w.cell? ⟨b, off + i * 4, none⟩ = some (.int .i64 (l.getD i default).t) ∧ w.cell? ⟨b, off + i * 4 + 1, none⟩ = some (.string (l.getD i default).k) ∧ w.cell? ⟨b, off + i * 4 + 2, none⟩ = some (.string (l.getD i default).s) ∧ w.cell? ⟨b, off + i * 4 + 3, none⟩ = some (.bool (l.getD i default).g)
theorem WsAt.below {w w' : World} {v : Value} {l : List Wr} (h : WsAt w v l) (hb : Below w.heap.size w w') : WsAt w' v l := by
  obtain ⟨h0, hz, p, cap, h1, h3, h4⟩ := h
  refine ⟨h0, hz, p, cap, h1, h3, fun i hi => ?_⟩
  obtain ⟨b, off, e, h2, h5, h6, h7, h8⟩ := h4 i hi
  exact ⟨b, off, e, Nat.lt_of_lt_of_le h2 hb.size, by rw [hb.cell (p := ⟨b, off + i * 4, none⟩) h2]; exact h5, by rw [hb.cell (p := ⟨b, off + i * 4 + 1, none⟩) h2]; exact h6, by rw [hb.cell (p := ⟨b, off + i * 4 + 2, none⟩) h2]; exact h7, by rw [hb.cell (p := ⟨b, off + i * 4 + 3, none⟩) h2]; exact h8⟩
theorem WsAt.slice {w : World} {v : Value} {l : List Wr} (h : WsAt w v l) : ∃ p cap, v = .slice p l.length cap ∧ l.length ≤ cap := by
  obtain ⟨-, -, p, cap, e, hc, -⟩ := h; exact ⟨p, cap, e, hc⟩
theorem WsAt.nil (w : World) (p : Option Addr) (c : Nat) : WsAt w (.slice p 0 c) [] := ⟨by simp, by simp, p, c, rfl, Nat.zero_le _, fun i hi => absurd hi (Nat.not_lt_zero _)⟩
theorem drop_ws (l : List Wr) (k : Nat) (h : k < l.length) : l.drop k = l.getD k default :: l.drop (k + 1) := by
  rw [List.drop_eq_getElem_cons h]; simp [List.getD, h]
/-- The k-th write, in memory and in the list. -/
theorem WsAt.at {w : World} {v : Value} {l : List Wr} (h : WsAt w v l) : ∃ p cap, v = .slice p l.length cap ∧ l.length ≤ 140737488355328 ∧ l.length ≤ cap ∧ ∀ k, k < l.length → ∃ b off x, p = some ⟨b, off, none⟩ ∧ Lt b w.heap.size ∧ w.cell? ⟨b, off + k * 4, none⟩ = some (.int .i64 x.t) ∧ w.cell? ⟨b, off + k * 4 + 1, none⟩ = some (.string x.k) ∧ w.cell? ⟨b, off + k * 4 + 2, none⟩ = some (.string x.s) ∧ w.cell? ⟨b, off + k * 4 + 3, none⟩ = some (.bool x.g) ∧ l.drop k = x :: l.drop (k + 1) ∧ l[k]? = some x ∧ x.k.size ≤ 140737488355328 ∧ x.s.size ≤ 140737488355328 := by
  obtain ⟨h0, hz, p, cap, h1, h3, h4⟩ := h
  refine ⟨p, cap, h1, h0, h3, fun k hk => ?_⟩
  obtain ⟨b, off, e, h2, h5, h6, h7, h8⟩ := h4 k hk
  have hx : l[k]? = some (l.getD k default) := by simp [List.getD, hk]
  obtain ⟨z1, z2⟩ := hz _ (List.mem_of_getElem? hx)
  exact ⟨b, off, _, e, h2, h5, h6, h7, h8, drop_ws l k hk, hx, z1, z2⟩
theorem getD_take_ws (l : List Wr) (s i : Nat) (h : i < s) : (l.take s).getD i default = l.getD i default := by
  simp [List.getD, h]
/-- The first ones alone. -/
theorem WsAt.take {w : World} {p : Option Addr} {n cap : Nat} {l : List Wr} (h : WsAt w (.slice p n cap) l) (s : Nat) (hs : s ≤ l.length) : WsAt w (.slice p s cap) (l.take s) := by
  obtain ⟨h0, hz, p', cap', h1, h3, h4⟩ := h
  simp only [Value.slice.injEq] at h1
  obtain ⟨rfl, rfl, rfl⟩ := h1
  have hl : (l.take s).length = s := by rw [List.length_take]; omega
  refine ⟨by omega, fun x hx => hz x (List.mem_of_mem_take hx), p, cap, by rw [hl], by omega, fun i hi => ?_⟩
  obtain ⟨b, off, e, h2, h5, h6, h7, h8⟩ := h4 i (by omega)
  rw [getD_take_ws _ _ _ (by omega)]
  exact ⟨b, off, e, h2, h5, h6, h7, h8⟩
/-- The cells of writes. -/
def wCells : List Wr → List Value
  | [] => []
  | x :: r => .int .i64 x.t :: .string x.k :: .string x.s :: .bool x.g :: wCells r
theorem wCells_length (l : List Wr) : (wCells l).length = l.length * 4 := by
  induction l with
  | nil => rfl
  | cons x r ih => simp [wCells, ih]; omega
theorem wCells_append (l m : List Wr) : wCells (l ++ m) = wCells l ++ wCells m := by
  induction l with
  | nil => rfl
  | cons x r ih => simp [wCells, ih]
theorem wCells_at (l : List Wr) (i : Nat) (h : i < l.length) : (wCells l)[i * 4]? = some (.int .i64 (l.getD i default).t) ∧ (wCells l)[i * 4 + 1]? = some (.string (l.getD i default).k) ∧ (wCells l)[i * 4 + 2]? = some (.string (l.getD i default).s) ∧ (wCells l)[i * 4 + 3]? = some (.bool (l.getD i default).g) := by
  induction l generalizing i with
  | nil => simp at h
  | cons x r ih =>
    cases i with
    | zero => simp [wCells]
    | succ i =>
      have := ih i (by simpa using h)
      rw [show (i + 1) * 4 = i * 4 + 1 + 1 + 1 + 1 by omega, show i * 4 + 1 + 1 + 1 + 1 + 2 = i * 4 + 2 + 1 + 1 + 1 + 1 by omega, show i * 4 + 1 + 1 + 1 + 1 + 3 = i * 4 + 3 + 1 + 1 + 1 + 1 by omega]
      simpa [wCells, List.getD] using this
theorem wCells_one (l : List Wr) : ∀ u ∈ wCells l, u.oneCell' = true := by
  induction l with
  | nil => intro u hu; cases hu
  | cons x r ih =>
    intro u hu
    simp only [wCells, List.mem_cons] at hu
    rcases hu with rfl | rfl | rfl | rfl | hu
    · rfl
    · rfl
    · rfl
    · rfl
    · exact ih u hu
/-- The cells, read out of memory. -/
theorem wCells_mem {w : World} {a : Addr} {cap : Nat} {l : List Wr} (h : WsAt w (.slice (some a) l.length cap) l) (j : Nat) (u : Value) (hu : (wCells l)[j]? = some u) : w.cell? (a.add j) = some u := by
  obtain ⟨h0, hz, p, cap', h1, h3, h4⟩ := h
  simp only [Value.slice.injEq] at h1
  obtain ⟨rfl, -, rfl⟩ := h1
  have hj : j < l.length * 4 := by
    have := (List.getElem?_eq_some_iff.1 hu).1
    rwa [wCells_length] at this
  obtain ⟨b, off, e, h2, h5, h6, h7, h8⟩ := h4 (j / 4) (by omega)
  simp only [Option.some.injEq] at e
  subst e
  obtain ⟨g0, g1, g2, g3⟩ := wCells_at l (j / 4) (by omega)
  rw [add_none]
  rcases (by omega : j = j / 4 * 4 ∨ j = j / 4 * 4 + 1 ∨ j = j / 4 * 4 + 2 ∨ j = j / 4 * 4 + 3) with e | e | e | e
  · rw [e, g0] at hu; rw [e, h5, hu]
  · rw [e, g1] at hu; rw [e, ← Nat.add_assoc, h6, hu]
  · rw [e, g2] at hu; rw [e, ← Nat.add_assoc, h7, hu]
  · rw [e, g3] at hu; rw [e, ← Nat.add_assoc, h8, hu]
/-- A row of writes that the call owns. -/
def OwnW (B : Nat) (w : World) (v : Value) (l : List Wr) : Prop := w.ownsRow B 43 4 v l.length (wCells l)
theorem OwnW.below {B : Nat} {w w' : World} {v : Value} {l : List Wr} (h : OwnW B w v l) (hb : Below w.heap.size w w') : OwnW B w' v l := own_below h hb
theorem OwnW.nil (B : Nat) (w : World) : OwnW B w (.slice none 0 0) [] := World.ownsRow_nil _ _ _ _
theorem OwnW.at {B : Nat} {w : World} {v : Value} {l : List Wr} (h : OwnW B w v l) (hl : l.length ≤ 140737488355328) (hz : ∀ x ∈ l, x.k.size ≤ 140737488355328 ∧ x.s.size ≤ 140737488355328) : WsAt w v l := by
  refine ⟨hl, hz, ?_⟩
  rcases h.2 with ⟨rfl, h0⟩ | ⟨g, cap, cur, rfl, hb, hg, hc, hm, hs, ht⟩
  · exact ⟨none, 0, by rw [h0], by omega, fun i hi => by omega⟩
  · refine ⟨some ⟨g, 0, none⟩, cap, rfl, hc, fun i hi => ⟨g, 0, rfl, (Array.getElem?_eq_some_iff.1 hg).1, ?_⟩⟩
    obtain ⟨g0, g1, g2, g3⟩ := wCells_at l i hi
    rw [Nat.zero_add]
    refine ⟨?_, ?_, ?_, ?_⟩
    · rw [h.cellAt (i * 4) (by omega), g0]
    · rw [h.cellAt (i * 4 + 1) (by omega), g1]
    · rw [h.cellAt (i * 4 + 2) (by omega), g2]
    · rw [h.cellAt (i * 4 + 3) (by omega), g3]
theorem OwnW.slice {B : Nat} {w : World} {v : Value} {l : List Wr} (h : OwnW B w v l) : ∃ p c, v = .slice p l.length c := by
  rcases h.2 with ⟨rfl, h0⟩ | ⟨g, c, cur, rfl, -⟩
  · exact ⟨none, 0, by rw [h0]⟩
  · exact ⟨_, _, rfl⟩
/-- A row of numbers that the call owns. -/
def OwnN (B : Nat) (w : World) (v : Value) (l : List Int) : Prop := w.ownsRow B 3 1 v l.length (l.map (Value.int .i64))
theorem OwnN.below {B : Nat} {w w' : World} {v : Value} {l : List Int} (h : OwnN B w v l) (hb : Below w.heap.size w w') : OwnN B w' v l := own_below h hb
theorem OwnN.nil (B : Nat) (w : World) : OwnN B w (.slice none 0 0) [] := World.ownsRow_nil _ _ _ _
theorem OwnN.at {B : Nat} {w : World} {v : Value} {l : List Int} (h : OwnN B w v l) (hl : l.length ≤ 1000000) : IntsAt w v l := IntsAt.own h hl
theorem OwnN.slice {B : Nat} {w : World} {v : Value} {l : List Int} (h : OwnN B w v l) : ∃ p c, v = .slice p l.length c := by
  rcases h.2 with ⟨rfl, h0⟩ | ⟨g, c, cur, rfl, -⟩
  · exact ⟨none, 0, by rw [h0]⟩
  · exact ⟨_, _, rfl⟩
theorem ints_mem {w : World} {a : Addr} {cap : Nat} {l : List Int} (h : IntsAt w (.slice (some a) l.length cap) l) (j : Nat) (u : Value) (hu : (l.map (Value.int .i64))[j]? = some u) : w.cell? (a.add j) = some u := by
  obtain ⟨h0, p, cap', h1, h3, h4⟩ := h
  simp only [Value.slice.injEq] at h1
  obtain ⟨rfl, -, rfl⟩ := h1
  have hj : j < l.length := by simpa using (List.getElem?_eq_some_iff.1 hu).1
  obtain ⟨b, off, e, h2, h5⟩ := h4 j hj
  simp only [Option.some.injEq] at e
  subst e
  rw [add_none, h5, ← hu]
  simp [List.getD, hj]
theorem IntsAt.zero (w : World) (p : Option Addr) (c : Nat) : IntsAt w (.slice p 0 c) [] := ⟨by simp, p, c, rfl, Nat.zero_le _, fun i hi => absurd hi (Nat.not_lt_zero _)⟩
theorem IntsAt.cap {w : World} {v : Value} {l : List Int} (h : IntsAt w v l) : ∃ p cap, v = .slice p l.length cap ∧ l.length ≤ cap := by
  obtain ⟨-, p, cap, e, h, -⟩ := h; exact ⟨p, cap, e, h⟩
theorem getD_take_i (l : List Int) (s i : Nat) (h : i < s) : (l.take s).getD i 0 = l.getD i 0 := by
  simp [List.getD, h]
theorem IntsAt.take {w : World} {p : Option Addr} {n cap : Nat} {l : List Int} (h : IntsAt w (.slice p n cap) l) (s : Nat) (hs : s ≤ l.length) : IntsAt w (.slice p s cap) (l.take s) := by
  obtain ⟨h0, p', cap', h1, h3, h4⟩ := h
  simp only [Value.slice.injEq] at h1
  obtain ⟨rfl, rfl, rfl⟩ := h1
  have hl : (l.take s).length = s := by rw [List.length_take]; omega
  refine ⟨by omega, p, cap, by rw [hl], by omega, fun i hi => ?_⟩
  obtain ⟨b, off, e, h2, h5⟩ := h4 i (by omega)
  exact ⟨b, off, e, h2, by rw [getD_take_i _ _ _ (by omega)]; exact h5⟩
/-- Numbers in memory, as many as an argument may hold. -/
def IntsBig (w : World) (v : Value) (l : List Int) : Prop :=
  l.length ≤ 140737488355328 ∧ ∃ p cap, v = .slice p l.length cap ∧ l.length ≤ cap ∧ ∀ i, i < l.length → ∃ b off, p = some ⟨b, off, none⟩ ∧ b < w.heap.size ∧ w.cell? ⟨b, off + i, none⟩ = some (.int .i64 (l.getD i 0))
theorem IntsBig.small {w : World} {v : Value} {l : List Int} (h : IntsBig w v l) (hl : l.length ≤ 1000000) : IntsAt w v l := ⟨hl, h.2⟩
theorem news4 {w : World} {b : Nat} {x y z u : Value} (h0 : w.cell? ⟨b, 0, none⟩ = some x) (h1 : w.cell? ⟨b, 1, none⟩ = some y) (h2 : w.cell? ⟨b, 2, none⟩ = some z) (h3 : w.cell? ⟨b, 3, none⟩ = some u) : ∀ (j : Nat) (v : Value), [x, y, z, u][j]? = some v → w.cell? ((⟨b, 0, none⟩ : Addr).add j) = some v := by
  intro j v hj
  match j, hj with
  | 0, hj => simp at hj; subst hj; simpa [Addr.add] using h0
  | 1, hj => simp at hj; subst hj; simpa [Addr.add] using h1
  | 2, hj => simp at hj; subst hj; simpa [Addr.add] using h2
  | 3, hj => simp at hj; subst hj; simpa [Addr.add] using h3
/-- An act: its number, the write. -/
structure Ac where
  d : Int
  n : Int
  x : Wr
instance : Inhabited Ac := ⟨⟨0, 0, default⟩⟩
/-- The slice v holds N acts, six cells each: the i-th is f i. -/
def AcsAt (w : World) (v : Value) (N : Nat) (f : Nat → Ac) : Prop :=
  N ≤ 140737488355328 ∧ ∃ p cap, v = .slice p N cap ∧ ∀ i, i < N → ∃ b off, p = some ⟨b, off, none⟩ ∧ b < w.heap.size ∧ w.cell? ⟨b, off + i * 6 + 1, none⟩ = some (.int .i64 (f i).n) ∧ w.cell? ⟨b, off + i * 6 + 2, none⟩ = some (.int .i64 (f i).x.t) ∧ w.cell? ⟨b, off + i * 6 + 3, none⟩ = some (.string (f i).x.k) ∧ w.cell? ⟨b, off + i * 6 + 4, none⟩ = some (.string (f i).x.s) ∧ w.cell? ⟨b, off + i * 6 + 5, none⟩ = some (.bool (f i).x.g) ∧ (f i).x.k.size ≤ 140737488355328 ∧ (f i).x.s.size ≤ 140737488355328
theorem AcsAt.below {w w' : World} {v : Value} {N : Nat} {f : Nat → Ac} (h : AcsAt w v N f) (hb : Below w.heap.size w w') : AcsAt w' v N f := by
  obtain ⟨h0, p, cap, h1, h4⟩ := h
  refine ⟨h0, p, cap, h1, fun i hi => ?_⟩
  obtain ⟨b, off, e, h2, h5, h6, h7, h8, h9, h10⟩ := h4 i hi
  exact ⟨b, off, e, Nat.lt_of_lt_of_le h2 hb.size, by rw [hb.cell (p := ⟨b, off + i * 6 + 1, none⟩) h2]; exact h5, by rw [hb.cell (p := ⟨b, off + i * 6 + 2, none⟩) h2]; exact h6, by rw [hb.cell (p := ⟨b, off + i * 6 + 3, none⟩) h2]; exact h7, by rw [hb.cell (p := ⟨b, off + i * 6 + 4, none⟩) h2]; exact h8, by rw [hb.cell (p := ⟨b, off + i * 6 + 5, none⟩) h2]; exact h9, h10⟩
theorem AcsAt.at {w : World} {v : Value} {N : Nat} {f : Nat → Ac} (h : AcsAt w v N f) : ∃ p cap, v = .slice p N cap ∧ N ≤ 140737488355328 ∧ ∀ i, i < N → ∃ b off n t k s g, p = some ⟨b, off, none⟩ ∧ Lt b w.heap.size ∧ w.cell? ⟨b, off + i * 6 + 1, none⟩ = some (.int .i64 n) ∧ w.cell? ⟨b, off + i * 6 + 2, none⟩ = some (.int .i64 t) ∧ w.cell? ⟨b, off + i * 6 + 3, none⟩ = some (.string k) ∧ w.cell? ⟨b, off + i * 6 + 4, none⟩ = some (.string s) ∧ w.cell? ⟨b, off + i * 6 + 5, none⟩ = some (.bool g) ∧ k.size ≤ 140737488355328 ∧ s.size ≤ 140737488355328 := by
  obtain ⟨h0, p, cap, h1, h4⟩ := h
  refine ⟨p, cap, h1, h0, fun i hi => ?_⟩
  obtain ⟨b, off, e, h2, h5, h6, h7, h8, h9, h10, h11⟩ := h4 i hi
  exact ⟨b, off, _, _, _, _, _, e, h2, h5, h6, h7, h8, h9, h10, h11⟩
end Go.Proofs.Ytaelgappabecgaa
