/- Slices in memory, as lists: of numbers, of waits. No condition. -/
import Derived.Test.YtgaalahlkllkaaaMore
import Derived.OwnWalk
import Derived.Deep.AppendLies
import Derived.Deep.Onto
namespace Go.Proofs.Ytgaalahlkllkaaa
open Go.RowKit

theorem ret_bool {a b : Bool} (h : a = b) : Ending.returned (.bool a) = .returned (.bool b) := by rw [h]
theorem ret_int {k : IntKind} {a b : Int} (h : a = b) : Ending.returned (.int k a) = .returned (.int k b) := by rw [h]

/-- The slice v holds the numbers l, in a block below the world's end. -/
def IntsAt (w : World) (v : Value) (l : List Int) : Prop :=
  l.length ≤ 1000000 ∧ ∃ p cap, v = .slice p l.length cap ∧ l.length ≤ cap ∧ ∀ i, i < l.length → ∃ b off, p = some ⟨b, off, none⟩ ∧ b < w.heap.size ∧ w.cell? ⟨b, off + i, none⟩ = some (.int .i64 (l.getD i 0))

theorem IntsAt.below {w w' : World} {v : Value} {l : List Int} (h : IntsAt w v l) (hb : Below w.heap.size w w') : IntsAt w' v l := by
  obtain ⟨h0, p, cap, h1, h3, h4⟩ := h
  refine ⟨h0, p, cap, h1, h3, fun i hi => ?_⟩
  obtain ⟨b, off, e, h2, h5⟩ := h4 i hi
  exact ⟨b, off, e, Nat.lt_of_lt_of_le h2 hb.size, by rw [hb.cell (p := ⟨b, off + i, none⟩) h2]; exact h5⟩

theorem IntsAt.slice {w : World} {v : Value} {l : List Int} (h : IntsAt w v l) : ∃ p cap, v = .slice p l.length cap := by
  obtain ⟨-, p, cap, e, -⟩ := h; exact ⟨p, cap, e⟩
theorem IntsAt.nil (w : World) : IntsAt w (.slice none 0 0) [] := ⟨by simp, none, 0, rfl, Nat.le_refl _, fun i hi => absurd hi (Nat.not_lt_zero _)⟩

theorem drop_getD (l : List Int) (k : Nat) (h : k < l.length) : l.drop k = l.getD k 0 :: l.drop (k + 1) := by
  rw [List.drop_eq_getElem_cons h]; simp [List.getD, h]

/-- The k-th number, in memory and in the list. -/
theorem IntsAt.at {w : World} {v : Value} {l : List Int} (h : IntsAt w v l) : ∃ p cap, v = .slice p l.length cap ∧ l.length ≤ 1000000 ∧ ∀ k, k < l.length → ∃ b off x, p = some ⟨b, off, none⟩ ∧ Lt b w.heap.size ∧ w.cell? ⟨b, off + k, none⟩ = some (.int .i64 x) ∧ l.drop k = x :: l.drop (k + 1) ∧ l[k]? = some x := by
  obtain ⟨h0, p, cap, h1, h3, h4⟩ := h
  refine ⟨p, cap, h1, h0, fun k hk => ?_⟩
  obtain ⟨b, off, e, h2, h5⟩ := h4 k hk
  exact ⟨b, off, _, e, h2, h5, drop_getD l k hk, by simp [List.getD, hk]⟩

/-- Numbers, none of them or at an address. -/
theorem IntsAt.form {w : World} {v : Value} {l : List Int} (h : IntsAt w v l) : (l = [] ∧ ∃ p cap, v = .slice p 0 cap) ∨
    ∃ b off cap, v = .slice (some ⟨b, off, none⟩) l.length cap ∧ 0 < l.length ∧ l.length ≤ cap ∧ l.length ≤ 1000000 ∧ b < w.heap.size ∧ ∀ j, j < l.length → w.cell? ⟨b, off + j, none⟩ = some (.int .i64 (l.getD j 0)) := by
  obtain ⟨h0, p, cap, h1, h3, h4⟩ := h
  by_cases hl : l = []
  · subst hl; exact .inl ⟨rfl, p, cap, h1⟩
  · have hp : 0 < l.length := List.length_pos_iff.2 hl
    obtain ⟨b, off, e, h2, h5⟩ := h4 0 hp
    refine .inr ⟨b, off, cap, by rw [h1, e], hp, h3, h0, h2, fun j hj => ?_⟩
    obtain ⟨b', off', e', h2', h5'⟩ := h4 j hj
    rw [e] at e'
    simp only [Option.some.injEq, Addr.mk.injEq] at e'
    obtain ⟨rfl, rfl, -⟩ := e'
    exact h5'

/-- A wait, with the slice value of its For. -/
structure Wv where
  o : Int
  v : Value
  f : List Int
instance : Inhabited Wv := ⟨⟨0, .slice none 0 0, []⟩⟩
/-- A wait: its owner, for whom. -/
abbrev Wt := Int × List Int
def Wv.pl (x : Wv) : Wt := (x.o, x.f)

/-- The slice v holds the waits P, two cells each, in a block below the world's end. -/
def WvAt (w : World) (v : Value) (P : List Wv) : Prop :=
  P.length ≤ 1000000 ∧ (∃ p cap, v = .slice p P.length cap ∧ P.length ≤ cap ∧ ∀ i, i < P.length → ∃ b off, p = some ⟨b, off, none⟩ ∧ b < w.heap.size ∧ w.cell? ⟨b, off + i * 2, none⟩ = some (.int .i64 (P.getD i default).o) ∧ w.cell? ⟨b, off + i * 2 + 1, none⟩ = some (P.getD i default).v) ∧
  ∀ x ∈ P, IntsAt w x.v x.f

theorem WvAt.below {w w' : World} {v : Value} {P : List Wv} (h : WvAt w v P) (hb : Below w.heap.size w w') : WvAt w' v P := by
  obtain ⟨h0, ⟨p, cap, h1, h3, h4⟩, h5⟩ := h
  refine ⟨h0, ⟨p, cap, h1, h3, fun i hi => ?_⟩, fun x hx => (h5 x hx).below hb⟩
  obtain ⟨b, off, e, h2, h6, h7⟩ := h4 i hi
  exact ⟨b, off, e, Nat.lt_of_lt_of_le h2 hb.size, by rw [hb.cell (p := ⟨b, off + i * 2, none⟩) h2]; exact h6, by rw [hb.cell (p := ⟨b, off + i * 2 + 1, none⟩) h2]; exact h7⟩

theorem drop_getD_wv (l : List Wv) (k : Nat) (h : k < l.length) : l.drop k = l.getD k default :: l.drop (k + 1) := by
  rw [List.drop_eq_getElem_cons h]; simp [List.getD, h]

theorem WvAt.at {w : World} {v : Value} {P : List Wv} (h : WvAt w v P) : ∃ p cap, v = .slice p P.length cap ∧ P.length ≤ 1000000 ∧ ∀ k, k < P.length → ∃ b off x, p = some ⟨b, off, none⟩ ∧ Lt b w.heap.size ∧ w.cell? ⟨b, off + k * 2, none⟩ = some (.int .i64 x.o) ∧ w.cell? ⟨b, off + k * 2 + 1, none⟩ = some x.v ∧ IntsAt w x.v x.f ∧ P.drop k = x :: P.drop (k + 1) ∧ P[k]? = some x := by
  obtain ⟨h0, ⟨p, cap, h1, h3, h4⟩, h5⟩ := h
  refine ⟨p, cap, h1, h0, fun k hk => ?_⟩
  obtain ⟨b, off, e, h2, h6, h7⟩ := h4 k hk
  have hx : P[k]? = some (P.getD k default) := by simp [List.getD, hk]
  exact ⟨b, off, _, e, h2, h6, h7, h5 _ (List.mem_of_getElem? hx), drop_getD_wv P k hk, hx⟩

/-- Waits, none of them or at an address. -/
theorem WvAt.form {w : World} {v : Value} {P : List Wv} (h : WvAt w v P) : (P = [] ∧ ∃ p cap, v = .slice p 0 cap) ∨
    ∃ b off cap, v = .slice (some ⟨b, off, none⟩) P.length cap ∧ 0 < P.length ∧ P.length ≤ cap ∧ P.length ≤ 1000000 ∧ b < w.heap.size ∧ ∀ j, j < P.length → w.cell? ⟨b, off + j * 2, none⟩ = some (.int .i64 (P.getD j default).o) ∧ w.cell? ⟨b, off + j * 2 + 1, none⟩ = some (P.getD j default).v := by
  obtain ⟨h0, ⟨p, cap, h1, h3, h4⟩, h5⟩ := h
  by_cases hl : P = []
  · subst hl; exact .inl ⟨rfl, p, cap, h1⟩
  · have hp : 0 < P.length := List.length_pos_iff.2 hl
    obtain ⟨b, off, e, h2, -⟩ := h4 0 hp
    refine .inr ⟨b, off, cap, by rw [h1, e], hp, h3, h0, h2, fun j hj => ?_⟩
    obtain ⟨b', off', e', h2', h5'⟩ := h4 j hj
    rw [e] at e'
    simp only [Option.some.injEq, Addr.mk.injEq] at e'
    obtain ⟨rfl, rfl, -⟩ := e'
    exact h5'

/-- The slice value v holds waits that read as l. -/
def WaitsAt (w : World) (v : Value) (l : List Wt) : Prop := ∃ P : List Wv, P.map Wv.pl = l ∧ WvAt w v P
theorem WaitsAt.below {w w' : World} {v : Value} {l : List Wt} (h : WaitsAt w v l) (hb : Below w.heap.size w w') : WaitsAt w' v l := by
  obtain ⟨P, e, h⟩ := h; exact ⟨P, e, h.below hb⟩

/- Rows that a call has made. -/
theorem ownBlock_mk (g off n c : Nat) : (Value.slice (some ⟨g, off, none⟩) n c).ownBlock = some g := rfl
/-- Two rows of unlike element types lie in unlike blocks. -/
theorem own_apart {w : World} {B B' : Nat} {e e' : TypeId} {s s' : Nat} {v v' : Value} {n n' : Nat} {xs xs' : List Value} (h : w.ownsRow B e s v n xs) (h' : w.ownsRow B' e' s' v' n' xs') (hne : e ≠ e') : v.ownBlock = none ∨ v.ownBlock ≠ v'.ownBlock := by
  rcases h.2 with ⟨rfl, -⟩ | ⟨g, cap, cur, rfl, -, hg, -⟩
  · exact .inl rfl
  · rcases h'.2 with ⟨rfl, -⟩ | ⟨g', cap', cur', rfl, -, hg', -⟩
    · exact .inr (by simp [Value.ownBlock])
    · refine .inr ?_
      simp only [ownBlock_mk, ne_eq, Option.some.injEq]
      rintro rfl
      rw [hg] at hg'
      simp at hg'
      exact hne hg'.2

theorem IntsAt.own {w : World} {B : Nat} {e : TypeId} {v : Value} {l : List Int} (h : w.ownsRow B e 1 v l.length (l.map (Value.int .i64))) (hl : l.length ≤ 1000000) : IntsAt w v l := by
  refine ⟨hl, ?_⟩
  rcases h.2 with ⟨rfl, h0⟩ | ⟨g, cap, cur, rfl, hb, hg, hc, hm, hs, ht⟩
  · exact ⟨none, 0, by rw [h0], by omega, fun i hi => by omega⟩
  · refine ⟨some ⟨g, 0, none⟩, cap, rfl, hc, fun i hi => ⟨g, 0, rfl, (Array.getElem?_eq_some_iff.1 hg).1, ?_⟩⟩
    rw [Nat.zero_add]
    have := h.cellAt i (by omega)
    rw [this]
    simp [List.getD, hi]

/-- The cells of waits. -/
def wvCells : List Wv → List Value
  | [] => []
  | x :: r => .int .i64 x.o :: x.v :: wvCells r
theorem wvCells_length (P : List Wv) : (wvCells P).length = P.length * 2 := by
  induction P with
  | nil => rfl
  | cons x r ih => simp [wvCells, ih]; omega
theorem wvCells_append (P Q : List Wv) : wvCells (P ++ Q) = wvCells P ++ wvCells Q := by
  induction P with
  | nil => rfl
  | cons x r ih => simp [wvCells, ih]
theorem wvCells_at (P : List Wv) (i : Nat) (h : i < P.length) : (wvCells P)[i * 2]? = some (.int .i64 (P.getD i default).o) ∧ (wvCells P)[i * 2 + 1]? = some (P.getD i default).v := by
  induction P generalizing i with
  | nil => simp at h
  | cons x r ih =>
    cases i with
    | zero => simp [wvCells]
    | succ i =>
      have := ih i (by simpa using h)
      rw [show (i + 1) * 2 = i * 2 + 1 + 1 by omega]
      simpa [wvCells, List.getD] using this

theorem WvAt.own {w : World} {B : Nat} {e : TypeId} {v : Value} {P : List Wv} (h : w.ownsRow B e 2 v P.length (wvCells P)) (hl : P.length ≤ 1000000) (hi : ∀ x ∈ P, IntsAt w x.v x.f) : WvAt w v P := by
  refine ⟨hl, ?_, hi⟩
  rcases h.2 with ⟨rfl, h0⟩ | ⟨g, cap, cur, rfl, hb, hg, hc, hm, hs, ht⟩
  · exact ⟨none, 0, by rw [h0], by omega, fun i hi => by omega⟩
  · refine ⟨some ⟨g, 0, none⟩, cap, rfl, hc, fun i hi => ⟨g, 0, rfl, (Array.getElem?_eq_some_iff.1 hg).1, ?_⟩⟩
    rw [Nat.zero_add, h.cellAt _ (by omega), h.cellAt _ (by omega)]
    exact wvCells_at P i hi

theorem add_none (b off i : Nat) : (Addr.mk b off none).add i = ⟨b, off + i, none⟩ := by
  unfold Addr.add; split
  · subst_vars; simp
  · rfl
theorem newsI {w : World} {b off : Nat} {l : List Int} (h : ∀ j, j < l.length → w.cell? ⟨b, off + j, none⟩ = some (.int .i64 (l.getD j 0))) : ∀ (j : Nat) (u : Value), (l.map (Value.int .i64))[j]? = some u → w.cell? ((⟨b, off, none⟩ : Addr).add j) = some u := by
  intro j u hj
  rw [List.getElem?_map] at hj
  cases hx : l[j]? with
  | none => rw [hx] at hj; cases hj
  | some x =>
    rw [hx] at hj
    have hjl : j < l.length := (List.getElem?_eq_some_iff.1 hx).1
    rw [add_none, h j hjl, ← hj]
    simp [List.getD, hx]
theorem newsI_one (l : List Int) : ∀ u ∈ l.map (Value.int .i64), u.oneCell' = true := by
  intro u hu; obtain ⟨x, -, rfl⟩ := List.mem_map.1 hu; rfl
theorem news2 {w : World} {b : Nat} {x y : Value} (h0 : w.cell? ⟨b, 0, none⟩ = some x) (h1 : w.cell? ⟨b, 1, none⟩ = some y) : ∀ (j : Nat) (u : Value), [x, y][j]? = some u → w.cell? ((⟨b, 0, none⟩ : Addr).add j) = some u := by
  intro j u hj
  match j, hj with
  | 0, hj => simp at hj; subst hj; simpa [Addr.add] using h0
  | 1, hj => simp at hj; subst hj; simpa [Addr.add] using h1
theorem news2_one {x y : Value} (h0 : x.oneCell' = true) (h1 : y.oneCell' = true) : ∀ u ∈ [x, y], u.oneCell' = true := by
  intro u hu; simp at hu; rcases hu with rfl | rfl <;> assumption
theorem news1 {w : World} {b : Nat} {x : Value} (h0 : w.cell? ⟨b, 0, none⟩ = some x) : ∀ (j : Nat) (u : Value), [x][j]? = some u → w.cell? ((⟨b, 0, none⟩ : Addr).add j) = some u := by
  intro j u hj
  match j, hj with
  | 0, hj => simp at hj; subst hj; simpa [Addr.add] using h0
theorem news1_one {x : Value} (h0 : x.oneCell' = true) : ∀ u ∈ [x], u.oneCell' = true := by
  intro u hu; simp at hu; subst hu; assumption
theorem below_append {w wr w1 : World} {e : TypeId} {s : Nat} {v : Value} {n : Nat} {xs : List Value} (hb : Below w.heap.size w wr) (hown : wr.ownsRow w.heap.size e s v n xs) (hg : wr.grownBy w1 v.ownBlock) : Below w.heap.size w w1 :=
  hb.grown hg hb.size (fun k hk => (hown.lt k hk).1)
/-- What a call owns stays so behind one that only makes memory. -/
theorem own_more {w : World} {B : Nat} {e : TypeId} {s : Nat} {v : Value} {n : Nat} {xs : List Value} (h : w.ownsRow B e s v n xs) (m : Nat) (es : Array Obj) : (more w m es).ownsRow B e s v n xs := by
  refine ⟨h.1, ?_⟩
  rcases h.2 with h2 | ⟨g, cap, cur, hv, hb, hg, r⟩
  · exact .inl h2
  · exact .inr ⟨g, cap, cur, hv, hb, by rw [more_block _ _ _ _ (Array.getElem?_eq_some_iff.1 hg).1]; exact hg, r⟩
theorem own_below {w w' : World} {B : Nat} {e : TypeId} {s : Nat} {v : Value} {n : Nat} {xs : List Value} (h : w.ownsRow B e s v n xs) (hb : Below w.heap.size w w') : w'.ownsRow B e s v n xs := by
  obtain ⟨m, es, rfl⟩ := below_more hb
  exact own_more h m es
end Go.Proofs.Ytgaalahlkllkaaa
