/- Worlds behind a call that only makes memory: 'more X n es' is the world X with the blocks es behind its own. No condition. -/
import Derived.WalkKit
import Derived.WalkSpells
import Derived.Lib.Hide
import Derived.Deep.QuietTactic
import Derived.BigQuiet
import Derived.OwnWalk
import Derived.Deep.AppendLies
import Derived.Deep.Onto
import Derived.Lib.Strings
namespace Go.Proofs.YtaophiknldkfdaaGreatDoor
open Go.RowKit

/-- The world X, with blocks es behind its own, after n draws. -/
def more (X : World) (n : Nat) (es : Array Obj) : World := { X with heap := X.heap ++ es, drawn := n }

theorem below_more {X w' : World} (hb : Below X.heap.size X w') : ∃ n es, w' = more X n es := by
  refine ⟨w'.drawn, w'.heap.extract X.heap.size w'.heap.size, ?_⟩
  obtain ⟨h1, h2, h3, h4, h5⟩ := hb
  cases w' with
  | mk heap tape drawn os output =>
    cases X with
    | mk heap0 tape0 drawn0 os0 output0 =>
      simp only [more] at *
      subst h1 h2 h3
      congr 1
      apply Array.ext_getElem?
      intro i
      by_cases hi : i < heap0.size
      · rw [h5 i hi, Array.getElem?_append_left hi]
      · rw [Array.getElem?_append_right (by omega), Array.getElem?_extract]
        by_cases hj : i < heap.size
        · rw [if_pos (by omega)]; congr 1; omega
        · rw [if_neg (by omega), Array.getElem?_eq_none (by omega)]

/- A block's number below the heap's size, said so that simp needs no side goal beyond one. -/
def Lt (a b : Nat) : Prop := a < b
def Mid (a b s : Nat) : Prop := b ≤ a ∧ a < b + s
theorem Lt.out {a b : Nat} (h : Lt a b) : a < b := h
@[go_sem] theorem Lt_self (a : Nat) : Lt a (a + 1) = True := by simp [Lt]
@[go_sem] theorem Mid_self (a : Nat) : Mid a a 1 = True := by simp [Mid]
@[go_sem] theorem Lt_add (a b s : Nat) : Lt a (b + s) = (Lt a b ∨ Mid a b s) := by
  simp only [Lt, Mid, eq_iff_iff]; omega
@[go_sem] theorem cell_past (w : World) (o : Obj) (n i : Nat) (hn : Lt n w.heap.size) : (w.alloc o).cell? ⟨n, i, none⟩ = w.cell? ⟨n, i, none⟩ := World.cell?_alloc_past o n i hn
@[go_sem] theorem frozen_past (w : World) (o : Obj) (n i : Nat) (hn : Lt n w.heap.size) : (w.alloc o).frozen? ⟨n, i, none⟩ = w.frozen? ⟨n, i, none⟩ := World.frozen?_alloc_past o n i hn
@[go_sem] theorem set_past (w : World) (o : Obj) (n i : Nat) (v : Value) (hn : Lt n w.heap.size) : (w.alloc o).setCell ⟨n, i, none⟩ v = (w.setCell ⟨n, i, none⟩ v).alloc o := World.setCell_alloc_past o n i v hn
@[go_sem, simp] theorem set_size (w : World) (a : Addr) (v : Value) : (w.setCell a v).heap.size = w.heap.size := by simp [World.setCell]
@[go_sem, simp] theorem more_size (X : World) (n : Nat) (es : Array Obj) : (more X n es).heap.size = X.heap.size + es.size := by simp [more]
theorem more_block (X : World) (n : Nat) (es : Array Obj) (b : Nat) (h : b < X.heap.size) : (more X n es).heap[b]? = X.heap[b]? := by
  simp only [more]; rw [Array.getElem?_append_left h]
@[go_sem] theorem more_cell (X : World) (n : Nat) (es : Array Obj) (b o : Nat) (h : Lt b X.heap.size) : (more X n es).cell? ⟨b, o, none⟩ = X.cell? ⟨b, o, none⟩ :=
  World.cell?_of_block (w := X) (a := ⟨b, o, none⟩) (more_block X n es b h)
@[go_sem] theorem more_frozen (X : World) (n : Nat) (es : Array Obj) (b o : Nat) (h : Lt b X.heap.size) : (more X n es).frozen? ⟨b, o, none⟩ = X.frozen? ⟨b, o, none⟩ :=
  World.frozen?_of_block (w := X) (a := ⟨b, o, none⟩) (more_block X n es b h)
@[go_sem] theorem more_setCell (X : World) (n : Nat) (es : Array Obj) (b o : Nat) (v : Value) (h : Lt b X.heap.size) : (more X n es).setCell ⟨b, o, none⟩ v = more (X.setCell ⟨b, o, none⟩ v) n es := by
  have h := h.out
  simp only [more, World.setCell]
  congr 1
  apply Array.ext_getElem?
  intro i
  rw [Array.getElem?_modify]
  by_cases hi : i < X.heap.size
  · rw [Array.getElem?_append_left hi, Array.getElem?_append_left (by simpa using hi), Array.getElem?_modify]
  · rw [Array.getElem?_append_right (by omega), Array.getElem?_append_right (by simp; omega)]
    rw [if_neg (by omega)]; simp
@[go_sem] theorem more_drew (X : World) (n : Nat) (es : Array Obj) : (more X n es).drew = more X (n + 1) es := rfl
@[go_sem] theorem more_drewN (X : World) (n m : Nat) (es : Array Obj) : (more X n es).drewN m = more X (n + m) es := rfl
@[go_sem] theorem more_of_drew (X : World) (n : Nat) (es : Array Obj) : more X.drew n es = more X n es := rfl
theorem more_more (X : World) (n m : Nat) (es fs : Array Obj) : more (more X n es) m fs = more X m (es ++ fs) := by
  simp [more, Array.append_assoc]
@[go_sem] theorem more_tape (X : World) (n : Nat) (es : Array Obj) : (more X n es).tape = X.tape := rfl
@[go_sem] theorem more_os (X : World) (n : Nat) (es : Array Obj) : (more X n es).os = X.os := rfl

theorem nw_trans {w w1 w2 : World} (h : Below w.heap.size w w1) (k : Below w1.heap.size w1 w2) : Below w.heap.size w w2 := h.trans (k.mono h.size)
theorem nw_alloc {w w1 : World} (h : Below w.heap.size w w1) (o : Obj) : Below w.heap.size w (w1.alloc o) := h.alloc h.size o
theorem nw_drew {w w1 : World} (h : Below w.heap.size w w1) : Below w.heap.size w w1.drew := h.drew
theorem nw_drewN {w w1 : World} (h : Below w.heap.size w w1) (n : Nat) : Below w.heap.size w (w1.drewN n) := ⟨h.os, h.tape, h.output, h.size, h.block⟩
theorem nw_set {w w1 : World} (h : Below w.heap.size w w1) {p : Addr} (hp : w.heap.size ≤ p.block) (u : Value) : Below w.heap.size w (w1.setCell p u) := h.setCell hp u
theorem nw_more {w w1 : World} (h : Below w.heap.size w w1) (n : Nat) (es : Array Obj) : Below w.heap.size w (more w1 n es) :=
  ⟨h.os, h.tape, h.output, by rw [more_size]; have := h.size; omega, fun k hk => by rw [more_block _ _ _ _ (by have := h.size; omega)]; exact h.block k hk⟩
end Go.Proofs.YtaophiknldkfdaaGreatDoor
/- Slices in memory, as lists: of numbers, of waits. No condition. -/
namespace Go.Proofs.YtaophiknldkfdaaGreatDoor
open Go.RowKit

theorem ret_bool {a b : Bool} (h : a = b) : Ending.returned (.bool a) = .returned (.bool b) := by rw [h]
theorem ret_int {k : IntKind} {a b : Int} (h : a = b) : Ending.returned (.int k a) = .returned (.int k b) := by rw [h]

/-- The slice v holds the numbers l, in a block below the world's end. -/
def IntsAt (w : World) (v : Value) (l : List Int) : Prop :=
  l.length ≤ 1000000 ∧ ∃ p cap, v = .slice p l.length cap ∧ l.length ≤ cap ∧ ∀ i, i < l.length → ∃ b off, p = some ⟨b, off, none⟩ ∧ b < w.heap.size ∧ w.cell? ⟨b, off + i, none⟩ = some (.int .i64 (l.getD i 0))

theorem IntsAt.below {w w' : World} {v : Value} {l : List Int} (h : IntsAt w v l) (hb : Below w.heap.size w w') : IntsAt w' v l := by
  obtain ⟨h0, p, cap, h1, h3, h4⟩ := h
  refine ⟨h0, p, cap, h1, h3, fun i hi => ?_⟩
  obtain ⟨b, off, e, h2, h5⟩ := h4 i hi
  exact ⟨b, off, e, Nat.lt_of_lt_of_le h2 hb.size, by rw [hb.cell (p := ⟨b, off + i, none⟩) h2]; exact h5⟩

theorem IntsAt.slice {w : World} {v : Value} {l : List Int} (h : IntsAt w v l) : ∃ p cap, v = .slice p l.length cap := by
  obtain ⟨-, p, cap, e, -⟩ := h; exact ⟨p, cap, e⟩
theorem IntsAt.nil (w : World) : IntsAt w (.slice none 0 0) [] := ⟨by simp, none, 0, rfl, Nat.le_refl _, fun i hi => absurd hi (Nat.not_lt_zero _)⟩

theorem drop_getD (l : List Int) (k : Nat) (h : k < l.length) : l.drop k = l.getD k 0 :: l.drop (k + 1) := by
  rw [List.drop_eq_getElem_cons h]; simp [List.getD, h]

/-- The k-th number, in memory and in the list. -/
theorem IntsAt.at {w : World} {v : Value} {l : List Int} (h : IntsAt w v l) : ∃ p cap, v = .slice p l.length cap ∧ l.length ≤ 1000000 ∧ ∀ k, k < l.length → ∃ b off x, p = some ⟨b, off, none⟩ ∧ Lt b w.heap.size ∧ w.cell? ⟨b, off + k, none⟩ = some (.int .i64 x) ∧ l.drop k = x :: l.drop (k + 1) ∧ l[k]? = some x := by
  obtain ⟨h0, p, cap, h1, h3, h4⟩ := h
  refine ⟨p, cap, h1, h0, fun k hk => ?_⟩
  obtain ⟨b, off, e, h2, h5⟩ := h4 k hk
  exact ⟨b, off, _, e, h2, h5, drop_getD l k hk, by simp [List.getD, hk]⟩

/-- Numbers, none of them or at an address. -/
theorem IntsAt.form {w : World} {v : Value} {l : List Int} (h : IntsAt w v l) : (l = [] ∧ ∃ p cap, v = .slice p 0 cap) ∨
    ∃ b off cap, v = .slice (some ⟨b, off, none⟩) l.length cap ∧ 0 < l.length ∧ l.length ≤ cap ∧ l.length ≤ 1000000 ∧ b < w.heap.size ∧ ∀ j, j < l.length → w.cell? ⟨b, off + j, none⟩ = some (.int .i64 (l.getD j 0)) := by
  obtain ⟨h0, p, cap, h1, h3, h4⟩ := h
  by_cases hl : l = []
  · subst hl; exact .inl ⟨rfl, p, cap, h1⟩
  · have hp : 0 < l.length := List.length_pos_iff.2 hl
    obtain ⟨b, off, e, h2, h5⟩ := h4 0 hp
    refine .inr ⟨b, off, cap, by rw [h1, e], hp, h3, h0, h2, fun j hj => ?_⟩
    obtain ⟨b', off', e', h2', h5'⟩ := h4 j hj
    rw [e] at e'
    simp only [Option.some.injEq, Addr.mk.injEq] at e'
    obtain ⟨rfl, rfl, -⟩ := e'
    exact h5'

/-- A wait, with the slice value of its For. -/
structure Wv where
  o : Int
  v : Value
  f : List Int
instance : Inhabited Wv := ⟨⟨0, .slice none 0 0, []⟩⟩
/-- A wait: its owner, for whom. -/
abbrev Wt := Int × List Int
def Wv.pl (x : Wv) : Wt := (x.o, x.f)

/-- The slice v holds the waits P, two cells each, in a block below the world's end. -/
def WvAt (w : World) (v : Value) (P : List Wv) : Prop :=
  P.length ≤ 1000000 ∧ (∃ p cap, v = .slice p P.length cap ∧ P.length ≤ cap ∧ ∀ i, i < P.length → ∃ b off, p = some ⟨b, off, none⟩ ∧ b < w.heap.size ∧ w.cell? ⟨b, off + i * 2, none⟩ = some (.int .i64 (P.getD i default).o) ∧ w.cell? ⟨b, off + i * 2 + 1, none⟩ = some (P.getD i default).v) ∧
  ∀ x ∈ P, IntsAt w x.v x.f

theorem WvAt.below {w w' : World} {v : Value} {P : List Wv} (h : WvAt w v P) (hb : Below w.heap.size w w') : WvAt w' v P := by
  obtain ⟨h0, ⟨p, cap, h1, h3, h4⟩, h5⟩ := h
  refine ⟨h0, ⟨p, cap, h1, h3, fun i hi => ?_⟩, fun x hx => (h5 x hx).below hb⟩
  obtain ⟨b, off, e, h2, h6, h7⟩ := h4 i hi
  exact ⟨b, off, e, Nat.lt_of_lt_of_le h2 hb.size, by rw [hb.cell (p := ⟨b, off + i * 2, none⟩) h2]; exact h6, by rw [hb.cell (p := ⟨b, off + i * 2 + 1, none⟩) h2]; exact h7⟩

theorem drop_getD_wv (l : List Wv) (k : Nat) (h : k < l.length) : l.drop k = l.getD k default :: l.drop (k + 1) := by
  rw [List.drop_eq_getElem_cons h]; simp [List.getD, h]

theorem WvAt.at {w : World} {v : Value} {P : List Wv} (h : WvAt w v P) : ∃ p cap, v = .slice p P.length cap ∧ P.length ≤ 1000000 ∧ ∀ k, k < P.length → ∃ b off x, p = some ⟨b, off, none⟩ ∧ Lt b w.heap.size ∧ w.cell? ⟨b, off + k * 2, none⟩ = some (.int .i64 x.o) ∧ w.cell? ⟨b, off + k * 2 + 1, none⟩ = some x.v ∧ IntsAt w x.v x.f ∧ P.drop k = x :: P.drop (k + 1) ∧ P[k]? = some x := by
  obtain ⟨h0, ⟨p, cap, h1, h3, h4⟩, h5⟩ := h
  refine ⟨p, cap, h1, h0, fun k hk => ?_⟩
  obtain ⟨b, off, e, h2, h6, h7⟩ := h4 k hk
  have hx : P[k]? = some (P.getD k default) := by simp [List.getD, hk]
  exact ⟨b, off, _, e, h2, h6, h7, h5 _ (List.mem_of_getElem? hx), drop_getD_wv P k hk, hx⟩

/-- Waits, none of them or at an address. -/
theorem WvAt.form {w : World} {v : Value} {P : List Wv} (h : WvAt w v P) : (P = [] ∧ ∃ p cap, v = .slice p 0 cap) ∨
    ∃ b off cap, v = .slice (some ⟨b, off, none⟩) P.length cap ∧ 0 < P.length ∧ P.length ≤ cap ∧ P.length ≤ 1000000 ∧ b < w.heap.size ∧ ∀ j, j < P.length → w.cell? ⟨b, off + j * 2, none⟩ = some (.int .i64 (P.getD j default).o) ∧ w.cell? ⟨b, off + j * 2 + 1, none⟩ = some (P.getD j default).v := by
  obtain ⟨h0, ⟨p, cap, h1, h3, h4⟩, h5⟩ := h
  by_cases hl : P = []
  · subst hl; exact .inl ⟨rfl, p, cap, h1⟩
  · have hp : 0 < P.length := List.length_pos_iff.2 hl
    obtain ⟨b, off, e, h2, -⟩ := h4 0 hp
    refine .inr ⟨b, off, cap, by rw [h1, e], hp, h3, h0, h2, fun j hj => ?_⟩
    obtain ⟨b', off', e', h2', h5'⟩ := h4 j hj
    rw [e] at e'
    simp only [Option.some.injEq, Addr.mk.injEq] at e'
    obtain ⟨rfl, rfl, -⟩ := e'
    exact h5'

/-- The slice value v holds waits that read as l. -/
def WaitsAt (w : World) (v : Value) (l : List Wt) : Prop := ∃ P : List Wv, P.map Wv.pl = l ∧ WvAt w v P
theorem WaitsAt.below {w w' : World} {v : Value} {l : List Wt} (h : WaitsAt w v l) (hb : Below w.heap.size w w') : WaitsAt w' v l := by
  obtain ⟨P, e, h⟩ := h; exact ⟨P, e, h.below hb⟩

/- Rows that a call has made. -/
theorem ownBlock_mk (g off n c : Nat) : (Value.slice (some ⟨g, off, none⟩) n c).ownBlock = some g := rfl
/-- Two rows of unlike element types lie in unlike blocks. -/
theorem own_apart {w : World} {B B' : Nat} {e e' : TypeId} {s s' : Nat} {v v' : Value} {n n' : Nat} {xs xs' : List Value} (h : w.ownsRow B e s v n xs) (h' : w.ownsRow B' e' s' v' n' xs') (hne : e ≠ e') : v.ownBlock = none ∨ v.ownBlock ≠ v'.ownBlock := by
  rcases h.2 with ⟨rfl, -⟩ | ⟨g, cap, cur, rfl, -, hg, -⟩
  · exact .inl rfl
  · rcases h'.2 with ⟨rfl, -⟩ | ⟨g', cap', cur', rfl, -, hg', -⟩
    · exact .inr (by simp [Value.ownBlock])
    · refine .inr ?_
      simp only [ownBlock_mk, ne_eq, Option.some.injEq]
      rintro rfl
      rw [hg] at hg'
      simp at hg'
      exact hne hg'.2

theorem IntsAt.own {w : World} {B : Nat} {e : TypeId} {v : Value} {l : List Int} (h : w.ownsRow B e 1 v l.length (l.map (Value.int .i64))) (hl : l.length ≤ 1000000) : IntsAt w v l := by
  refine ⟨hl, ?_⟩
  rcases h.2 with ⟨rfl, h0⟩ | ⟨g, cap, cur, rfl, hb, hg, hc, hm, hs, ht⟩
  · exact ⟨none, 0, by rw [h0], by omega, fun i hi => by omega⟩
  · refine ⟨some ⟨g, 0, none⟩, cap, rfl, hc, fun i hi => ⟨g, 0, rfl, (Array.getElem?_eq_some_iff.1 hg).1, ?_⟩⟩
    rw [Nat.zero_add]
    have := h.cellAt i (by omega)
    rw [this]
    simp [List.getD, hi]

/-- The cells of waits. -/
def wvCells : List Wv → List Value
  | [] => []
  | x :: r => .int .i64 x.o :: x.v :: wvCells r
theorem wvCells_length (P : List Wv) : (wvCells P).length = P.length * 2 := by
  induction P with
  | nil => rfl
  | cons x r ih => simp [wvCells, ih]; omega
theorem wvCells_append (P Q : List Wv) : wvCells (P ++ Q) = wvCells P ++ wvCells Q := by
  induction P with
  | nil => rfl
  | cons x r ih => simp [wvCells, ih]
theorem wvCells_at (P : List Wv) (i : Nat) (h : i < P.length) : (wvCells P)[i * 2]? = some (.int .i64 (P.getD i default).o) ∧ (wvCells P)[i * 2 + 1]? = some (P.getD i default).v := by
  induction P generalizing i with
  | nil => simp at h
  | cons x r ih =>
    cases i with
    | zero => simp [wvCells]
    | succ i =>
      have := ih i (by simpa using h)
      rw [show (i + 1) * 2 = i * 2 + 1 + 1 by omega]
      simpa [wvCells, List.getD] using this

theorem WvAt.own {w : World} {B : Nat} {e : TypeId} {v : Value} {P : List Wv} (h : w.ownsRow B e 2 v P.length (wvCells P)) (hl : P.length ≤ 1000000) (hi : ∀ x ∈ P, IntsAt w x.v x.f) : WvAt w v P := by
  refine ⟨hl, ?_, hi⟩
  rcases h.2 with ⟨rfl, h0⟩ | ⟨g, cap, cur, rfl, hb, hg, hc, hm, hs, ht⟩
  · exact ⟨none, 0, by rw [h0], by omega, fun i hi => by omega⟩
  · refine ⟨some ⟨g, 0, none⟩, cap, rfl, hc, fun i hi => ⟨g, 0, rfl, (Array.getElem?_eq_some_iff.1 hg).1, ?_⟩⟩
    rw [Nat.zero_add, h.cellAt _ (by omega), h.cellAt _ (by omega)]
    exact wvCells_at P i hi

theorem add_none (b off i : Nat) : (Addr.mk b off none).add i = ⟨b, off + i, none⟩ := by
  unfold Addr.add; split
  · subst_vars; simp
  · rfl
theorem newsI {w : World} {b off : Nat} {l : List Int} (h : ∀ j, j < l.length → w.cell? ⟨b, off + j, none⟩ = some (.int .i64 (l.getD j 0))) : ∀ (j : Nat) (u : Value), (l.map (Value.int .i64))[j]? = some u → w.cell? ((⟨b, off, none⟩ : Addr).add j) = some u := by
  intro j u hj
  rw [List.getElem?_map] at hj
  cases hx : l[j]? with
  | none => rw [hx] at hj; cases hj
  | some x =>
    rw [hx] at hj
    have hjl : j < l.length := (List.getElem?_eq_some_iff.1 hx).1
    rw [add_none, h j hjl, ← hj]
    simp [List.getD, hx]
theorem newsI_one (l : List Int) : ∀ u ∈ l.map (Value.int .i64), u.oneCell' = true := by
  intro u hu; obtain ⟨x, -, rfl⟩ := List.mem_map.1 hu; rfl
theorem news2 {w : World} {b : Nat} {x y : Value} (h0 : w.cell? ⟨b, 0, none⟩ = some x) (h1 : w.cell? ⟨b, 1, none⟩ = some y) : ∀ (j : Nat) (u : Value), [x, y][j]? = some u → w.cell? ((⟨b, 0, none⟩ : Addr).add j) = some u := by
  intro j u hj
  match j, hj with
  | 0, hj => simp at hj; subst hj; simpa [Addr.add] using h0
  | 1, hj => simp at hj; subst hj; simpa [Addr.add] using h1
theorem news2_one {x y : Value} (h0 : x.oneCell' = true) (h1 : y.oneCell' = true) : ∀ u ∈ [x, y], u.oneCell' = true := by
  intro u hu; simp at hu; rcases hu with rfl | rfl <;> assumption
theorem news1 {w : World} {b : Nat} {x : Value} (h0 : w.cell? ⟨b, 0, none⟩ = some x) : ∀ (j : Nat) (u : Value), [x][j]? = some u → w.cell? ((⟨b, 0, none⟩ : Addr).add j) = some u := by
  intro j u hj
  match j, hj with
  | 0, hj => simp at hj; subst hj; simpa [Addr.add] using h0
theorem news1_one {x : Value} (h0 : x.oneCell' = true) : ∀ u ∈ [x], u.oneCell' = true := by
  intro u hu; simp at hu; subst hu; assumption
theorem below_append {w wr w1 : World} {e : TypeId} {s : Nat} {v : Value} {n : Nat} {xs : List Value} (hb : Below w.heap.size w wr) (hown : wr.ownsRow w.heap.size e s v n xs) (hg : wr.grownBy w1 v.ownBlock) : Below w.heap.size w w1 :=
  hb.grown hg hb.size (fun k hk => (hown.lt k hk).1)
/-- What a call owns stays so behind one that only makes memory. -/
theorem own_more {w : World} {B : Nat} {e : TypeId} {s : Nat} {v : Value} {n : Nat} {xs : List Value} (h : w.ownsRow B e s v n xs) (m : Nat) (es : Array Obj) : (more w m es).ownsRow B e s v n xs := by
  refine ⟨h.1, ?_⟩
  rcases h.2 with h2 | ⟨g, cap, cur, hv, hb, hg, r⟩
  · exact .inl h2
  · exact .inr ⟨g, cap, cur, hv, hb, by rw [more_block _ _ _ _ (Array.getElem?_eq_some_iff.1 hg).1]; exact hg, r⟩
theorem own_below {w w' : World} {B : Nat} {e : TypeId} {s : Nat} {v : Value} {n : Nat} {xs : List Value} (h : w.ownsRow B e s v n xs) (hb : Below w.heap.size w w') : w'.ownsRow B e s v n xs := by
  obtain ⟨m, es, rfl⟩ := below_more hb
  exact own_more h m es
end Go.Proofs.YtaophiknldkfdaaGreatDoor
/- Slices of strings in memory, as lists; what blocks from a number on hold. No condition. -/
namespace Go.Proofs.YtaophiknldkfdaaGreatDoor
open Go.RowKit

def E0 : ByteArray := { data := #[] }
/-- The blocks from B on stay as they are. -/
def Stays (B : Nat) (w w' : World) : Prop := w.heap.size ≤ w'.heap.size ∧ ∀ k, B ≤ k → k < w.heap.size → w'.heap[k]? = w.heap[k]?
theorem Stays.of {B : Nat} {w w' : World} (h : Below w.heap.size w w') : Stays B w w' := ⟨h.size, fun k _ hk => h.block k hk⟩
theorem Stays.set {B : Nat} {w : World} {a : Addr} (h : a.block < B) (u : Value) : Stays B w (w.setCell a u) :=
  ⟨by simp, fun k hk _ => heap_setCell_other w a k u (fun e => by omega)⟩
theorem Stays.trans {B : Nat} {w w1 w2 : World} (h : Stays B w w1) (h2 : Stays B w1 w2) : Stays B w w2 :=
  ⟨Nat.le_trans h.1 h2.1, fun k hk hk2 => (h2.2 k hk (Nat.lt_of_lt_of_le hk2 h.1)).trans (h.2 k hk hk2)⟩
theorem Stays.cell {B : Nat} {w w' : World} (h : Stays B w w') {b i : Nat} (hb : B ≤ b) (hl : b < w.heap.size) : w'.cell? ⟨b, i, none⟩ = w.cell? ⟨b, i, none⟩ :=
  World.cell?_of_block (h.2 b hb hl)

/-- The slice v holds the strings S, in a block from B on. -/
def StrsIn (B : Nat) (w : World) (v : Value) (S : List ByteArray) : Prop :=
  S.length ≤ 1000000 ∧ (∀ s ∈ S, s.size ≤ 140737488355328) ∧ ∃ p cap, v = .slice p S.length cap ∧ S.length ≤ cap ∧ ∀ i, i < S.length → ∃ b off, p = some ⟨b, off, none⟩ ∧ B ≤ b ∧ b < w.heap.size ∧ w.cell? ⟨b, off + i, none⟩ = some (.string (S.getD i E0))
/-- The slice v holds the numbers l, in a block from B on. -/
def IntsIn (B : Nat) (w : World) (v : Value) (l : List Int) : Prop :=
  l.length ≤ 1000000 ∧ ∃ p cap, v = .slice p l.length cap ∧ l.length ≤ cap ∧ ∀ i, i < l.length → ∃ b off, p = some ⟨b, off, none⟩ ∧ B ≤ b ∧ b < w.heap.size ∧ w.cell? ⟨b, off + i, none⟩ = some (.int .i64 (l.getD i 0))

theorem StrsIn.stays {B : Nat} {w w' : World} {v : Value} {S : List ByteArray} (h : StrsIn B w v S) (hs : Stays B w w') : StrsIn B w' v S := by
  obtain ⟨h0, hz, p, cap, h1, h3, h4⟩ := h
  refine ⟨h0, hz, p, cap, h1, h3, fun i hi => ?_⟩
  obtain ⟨b, off, e, hB, h2, h5⟩ := h4 i hi
  exact ⟨b, off, e, hB, Nat.lt_of_lt_of_le h2 hs.1, by rw [hs.cell hB h2]; exact h5⟩
theorem IntsIn.stays {B : Nat} {w w' : World} {v : Value} {l : List Int} (h : IntsIn B w v l) (hs : Stays B w w') : IntsIn B w' v l := by
  obtain ⟨h0, p, cap, h1, h3, h4⟩ := h
  refine ⟨h0, p, cap, h1, h3, fun i hi => ?_⟩
  obtain ⟨b, off, e, hB, h2, h5⟩ := h4 i hi
  exact ⟨b, off, e, hB, Nat.lt_of_lt_of_le h2 hs.1, by rw [hs.cell hB h2]; exact h5⟩
theorem StrsIn.below {B : Nat} {w w' : World} {v : Value} {S : List ByteArray} (h : StrsIn B w v S) (hb : Below w.heap.size w w') : StrsIn B w' v S := h.stays (Stays.of hb)
theorem IntsIn.below {B : Nat} {w w' : World} {v : Value} {l : List Int} (h : IntsIn B w v l) (hb : Below w.heap.size w w') : IntsIn B w' v l := h.stays (Stays.of hb)
theorem StrsIn.mono {B B' : Nat} {w : World} {v : Value} {S : List ByteArray} (h : StrsIn B w v S) (hB : B' ≤ B) : StrsIn B' w v S := by
  obtain ⟨h0, hz, p, cap, h1, h3, h4⟩ := h
  refine ⟨h0, hz, p, cap, h1, h3, fun i hi => ?_⟩
  obtain ⟨b, off, e, hb, r⟩ := h4 i hi
  exact ⟨b, off, e, by omega, r⟩
theorem IntsIn.mono {B B' : Nat} {w : World} {v : Value} {l : List Int} (h : IntsIn B w v l) (hB : B' ≤ B) : IntsIn B' w v l := by
  obtain ⟨h0, p, cap, h1, h3, h4⟩ := h
  refine ⟨h0, p, cap, h1, h3, fun i hi => ?_⟩
  obtain ⟨b, off, e, hb, r⟩ := h4 i hi
  exact ⟨b, off, e, by omega, r⟩
theorem IntsIn.toAt {B : Nat} {w : World} {v : Value} {l : List Int} (h : IntsIn B w v l) : IntsAt w v l := by
  obtain ⟨h0, p, cap, h1, h3, h4⟩ := h
  refine ⟨h0, p, cap, h1, h3, fun i hi => ?_⟩
  obtain ⟨b, off, e, -, h2, h5⟩ := h4 i hi
  exact ⟨b, off, e, h2, h5⟩
theorem StrsIn.nil (B : Nat) (w : World) : StrsIn B w (.slice none 0 0) [] := ⟨by simp, by simp, none, 0, rfl, Nat.le_refl _, fun i hi => absurd hi (Nat.not_lt_zero _)⟩
theorem IntsIn.nil (B : Nat) (w : World) : IntsIn B w (.slice none 0 0) [] := ⟨by simp, none, 0, rfl, Nat.le_refl _, fun i hi => absurd hi (Nat.not_lt_zero _)⟩

theorem IntsIn.zero (B : Nat) (w : World) (p : Option Addr) (c : Nat) : IntsIn B w (.slice p 0 c) [] := ⟨by simp, p, c, rfl, Nat.zero_le _, fun i hi => absurd hi (Nat.not_lt_zero _)⟩
/-- None of them, or in another block. -/
def ApartI (u1 u2 : Value) (l : List Int) : Prop := l = [] ∨ u2.ownBlock ≠ u1.ownBlock
theorem IntsIn.set {B : Nat} {w : World} {v : Value} {l : List Int} (h : IntsIn B w v l) {a : Addr} (ha : l = [] ∨ v.ownBlock ≠ some a.block) (u : Value) : IntsIn B (w.setCell a u) v l := by
  obtain ⟨h0, p, cap, h1, h3, h4⟩ := h
  refine ⟨h0, p, cap, h1, h3, fun i hi => ?_⟩
  obtain ⟨b, off, e, hB, h2, h5⟩ := h4 i hi
  have hne : b ≠ a.block := by
    rcases ha with ha | ha
    · subst ha; simp at hi
    · rw [h1, e] at ha; simpa [Value.ownBlock] using ha
  exact ⟨b, off, e, hB, by simpa using h2, (World.cell?_of_block (heap_setCell_other w a b u (fun e => hne (by simp [e])))).trans h5⟩
theorem drop_strs (l : List ByteArray) (k : Nat) (h : k < l.length) : l.drop k = l.getD k E0 :: l.drop (k + 1) := by
  rw [List.drop_eq_getElem_cons h]; simp [List.getD, h]
theorem StrsIn.at {B : Nat} {w : World} {v : Value} {S : List ByteArray} (h : StrsIn B w v S) : ∃ p cap, v = .slice p S.length cap ∧ S.length ≤ 1000000 ∧ ∀ k, k < S.length → ∃ b off s, p = some ⟨b, off, none⟩ ∧ Lt b w.heap.size ∧ w.cell? ⟨b, off + k, none⟩ = some (.string s) ∧ S.drop k = s :: S.drop (k + 1) ∧ S[k]? = some s ∧ s.size ≤ 140737488355328 := by
  obtain ⟨h0, hz, p, cap, h1, h3, h4⟩ := h
  refine ⟨p, cap, h1, h0, fun k hk => ?_⟩
  obtain ⟨b, off, e, -, h2, h5⟩ := h4 k hk
  have hx : S[k]? = some (S.getD k E0) := by simp [List.getD, hk]
  exact ⟨b, off, _, e, h2, h5, drop_strs S k hk, hx, hz _ (List.mem_of_getElem? hx)⟩
theorem StrsIn.slice {B : Nat} {w : World} {v : Value} {S : List ByteArray} (h : StrsIn B w v S) : ∃ p cap, v = .slice p S.length cap ∧ S.length ≤ cap := by
  obtain ⟨-, -, p, cap, e, h, -⟩ := h; exact ⟨p, cap, e, h⟩
theorem IntsIn.slice {B : Nat} {w : World} {v : Value} {l : List Int} (h : IntsIn B w v l) : ∃ p cap, v = .slice p l.length cap ∧ l.length ≤ cap := by
  obtain ⟨-, p, cap, e, h, -⟩ := h; exact ⟨p, cap, e, h⟩
theorem StrsIn.form {B : Nat} {w : World} {v : Value} {S : List ByteArray} (h : StrsIn B w v S) : (S = [] ∧ ∃ p cap, v = .slice p 0 cap) ∨
    ∃ b off cap, v = .slice (some ⟨b, off, none⟩) S.length cap ∧ 0 < S.length ∧ S.length ≤ cap ∧ S.length ≤ 1000000 ∧ b < w.heap.size ∧ ∀ j, j < S.length → w.cell? ⟨b, off + j, none⟩ = some (.string (S.getD j E0)) := by
  obtain ⟨h0, hz, p, cap, h1, h3, h4⟩ := h
  by_cases hl : S = []
  · subst hl; exact .inl ⟨rfl, p, cap, h1⟩
  · have hp : 0 < S.length := List.length_pos_iff.2 hl
    obtain ⟨b, off, e, -, h2, -⟩ := h4 0 hp
    refine .inr ⟨b, off, cap, by rw [h1, e], hp, h3, h0, h2, fun j hj => ?_⟩
    obtain ⟨b', off', e', -, h2', h5'⟩ := h4 j hj
    rw [e] at e'
    simp only [Option.some.injEq, Addr.mk.injEq] at e'
    obtain ⟨rfl, rfl, -⟩ := e'
    exact h5'
theorem StrsIn.own {w : World} {B : Nat} {e : TypeId} {v : Value} {S : List ByteArray} (h : w.ownsRow B e 1 v S.length (S.map Value.string)) (hl : S.length ≤ 1000000) (hz : ∀ s ∈ S, s.size ≤ 140737488355328) : StrsIn B w v S := by
  refine ⟨hl, hz, ?_⟩
  rcases h.2 with ⟨rfl, h0⟩ | ⟨g, cap, cur, rfl, hb, hg, hc, hm, hs, ht⟩
  · exact ⟨none, 0, by rw [h0], by omega, fun i hi => by omega⟩
  · refine ⟨some ⟨g, 0, none⟩, cap, rfl, hc, fun i hi => ⟨g, 0, rfl, hb, (Array.getElem?_eq_some_iff.1 hg).1, ?_⟩⟩
    rw [Nat.zero_add]
    have := h.cellAt i (by omega)
    rw [this]
    simp [List.getD, hi]
theorem IntsIn.own {w : World} {B : Nat} {e : TypeId} {v : Value} {l : List Int} (h : w.ownsRow B e 1 v l.length (l.map (Value.int .i64))) (hl : l.length ≤ 1000000) : IntsIn B w v l := by
  refine ⟨hl, ?_⟩
  rcases h.2 with ⟨rfl, h0⟩ | ⟨g, cap, cur, rfl, hb, hg, hc, hm, hs, ht⟩
  · exact ⟨none, 0, by rw [h0], by omega, fun i hi => by omega⟩
  · refine ⟨some ⟨g, 0, none⟩, cap, rfl, hc, fun i hi => ⟨g, 0, rfl, hb, (Array.getElem?_eq_some_iff.1 hg).1, ?_⟩⟩
    rw [Nat.zero_add]
    have := h.cellAt i (by omega)
    rw [this]
    simp [List.getD, hi]

theorem getD_take {α : Type} (l : List α) (s i : Nat) (d : α) (h : i < s) : (l.take s).getD i d = l.getD i d := by
  simp [List.getD, h]
/-- The first ones alone. -/
theorem StrsIn.take {B : Nat} {w : World} {p : Option Addr} {n cap : Nat} {S : List ByteArray} (h : StrsIn B w (.slice p n cap) S) (s : Nat) (hs : s ≤ S.length) : StrsIn B w (.slice p s cap) (S.take s) := by
  obtain ⟨h0, hz, p', cap', h1, h3, h4⟩ := h
  simp only [Value.slice.injEq] at h1
  obtain ⟨rfl, rfl, rfl⟩ := h1
  have hl : (S.take s).length = s := by rw [List.length_take]; omega
  refine ⟨by omega, fun x hx => hz x (List.mem_of_mem_take hx), p, cap, by rw [hl], by omega, fun i hi => ?_⟩
  obtain ⟨b, off, e, hB, h2, h5⟩ := h4 i (by omega)
  exact ⟨b, off, e, hB, h2, by rw [getD_take _ _ _ _ (by omega)]; exact h5⟩
theorem IntsIn.take {B : Nat} {w : World} {p : Option Addr} {n cap : Nat} {l : List Int} (h : IntsIn B w (.slice p n cap) l) (s : Nat) (hs : s ≤ l.length) : IntsIn B w (.slice p s cap) (l.take s) := by
  obtain ⟨h0, p', cap', h1, h3, h4⟩ := h
  simp only [Value.slice.injEq] at h1
  obtain ⟨rfl, rfl, rfl⟩ := h1
  have hl : (l.take s).length = s := by rw [List.length_take]; omega
  refine ⟨by omega, p, cap, by rw [hl], by omega, fun i hi => ?_⟩
  obtain ⟨b, off, e, hB, h2, h5⟩ := h4 i (by omega)
  exact ⟨b, off, e, hB, h2, by rw [getD_take _ _ _ _ (by omega)]; exact h5⟩
/-- All but the first. -/
theorem IntsIn.tail {B : Nat} {w : World} {g n cap : Nat} {x : Int} {l : List Int} (h : IntsIn B w (.slice (some ⟨g, 0, none⟩) n cap) (x :: l)) : IntsIn B w (.slice (some ⟨g, 1, none⟩) l.length (cap - 1)) l := by
  obtain ⟨h0, p', cap', h1, h3, h4⟩ := h
  simp only [Value.slice.injEq] at h1
  obtain ⟨rfl, rfl, rfl⟩ := h1
  simp only [List.length_cons] at h0 h3 h4
  refine ⟨by omega, _, _, rfl, by omega, fun i hi => ?_⟩
  obtain ⟨b, off, e, hB, h2, h5⟩ := h4 (i + 1) (by omega)
  simp only [Option.some.injEq, Addr.mk.injEq, and_true] at e
  obtain ⟨rfl, rfl⟩ := e
  exact ⟨g, 1, rfl, hB, h2, by rw [show 1 + i = 0 + (i + 1) by omega, h5]; rfl⟩
end Go.Proofs.YtaophiknldkfdaaGreatDoor
/- Plain facts on the order of byte strings: strict, total. No condition. -/
namespace Go.Proofs.YtaophiknldkfdaaGreatDoor
open Go.RowKit

/-- a is below b, byte by byte. -/
def lessB (a b : ByteArray) : Bool := Op.bytesLess a.toList b.toList
def sameB (a b : ByteArray) : Bool := a.toList == b.toList
/-- The greater one, the lesser one, as Go's builtins have them. -/
def maxB (a b : ByteArray) : ByteArray := match lessB a b with
  | true => b
  | false => a
def minB (a b : ByteArray) : ByteArray := match lessB b a with
  | true => b
  | false => a

theorem bytesLess_lt : ∀ (x y : List UInt8), Op.bytesLess x y = decide (x < y)
  | [], [] => by simp [Op.bytesLess]
  | _ :: _, [] => by simp [Op.bytesLess]
  | [], _ :: _ => by simp [Op.bytesLess]
  | a :: x, b :: y => by
    rw [Op.bytesLess, bytesLess_lt x y]
    simp only [List.cons_lt_cons_iff]
    by_cases h1 : a < b <;> by_cases h2 : a = b <;> by_cases h3 : x < y <;> simp [h1, h2, h3]
theorem bytesLess_tri : ∀ (x y : List UInt8), Op.bytesLess x y = true ∨ x = y ∨ Op.bytesLess y x = true
  | [], [] => by simp
  | _ :: _, [] => by simp [Op.bytesLess]
  | [], _ :: _ => by simp [Op.bytesLess]
  | a :: x, b :: y => by
    simp only [Op.bytesLess, Bool.or_eq_true, decide_eq_true_eq, Bool.and_eq_true, beq_iff_eq, List.cons.injEq]
    have hk := bytesLess_tri x y
    have ht : a < b ∨ a = b ∨ b < a := by
      simp only [UInt8.lt_iff_toNat_lt, ← UInt8.toNat_inj]; omega
    rcases ht with h | h | h
    · exact Or.inl (Or.inl h)
    · rcases hk with g | g | g
      · exact Or.inl (Or.inr ⟨h, g⟩)
      · exact Or.inr (Or.inl ⟨h, g⟩)
      · exact Or.inr (Or.inr (Or.inr ⟨h.symm, g⟩))
    · exact Or.inr (Or.inr (Or.inl h))
theorem less_iff (a b : ByteArray) : lessB a b = true ↔ a.toList < b.toList := by
  unfold lessB; rw [bytesLess_lt]; simp
theorem less_irrefl (a : ByteArray) : lessB a a = false := by
  have h : ¬ lessB a a = true := by rw [less_iff]; exact List.lt_irrefl _
  simpa using h
theorem less_trans {a b c : ByteArray} (h : lessB a b = true) (k : lessB b c = true) : lessB a c = true := by
  rw [less_iff] at *; exact List.lt_trans h k
theorem same_iff (a b : ByteArray) : sameB a b = true ↔ a = b := by
  unfold sameB
  constructor
  · intro h
    have e := eq_of_beq h
    rw [Lib.toList_data, Lib.toList_data] at e
    exact ByteArray.ext (Array.toList_inj.1 e)
  · intro h; rw [h]; simp
theorem less_tri (a b : ByteArray) : lessB a b = true ∨ a = b ∨ lessB b a = true := by
  rcases bytesLess_tri a.toList b.toList with h | h | h
  · exact Or.inl h
  · exact Or.inr (Or.inl ((same_iff a b).1 (by unfold sameB; rw [h]; simp)))
  · exact Or.inr (Or.inr h)
theorem less_asymm {a b : ByteArray} (h : lessB a b = true) : lessB b a = false := by
  have h' : ¬ lessB b a = true := fun k => by have := less_trans h k; rw [less_irrefl] at this; cases this
  simpa using h'
/-- 'a > b', as the walk spells it. -/
theorem gtr_less (a b : ByteArray) : (!lessB a b && !sameB a b) = lessB b a := by
  rcases less_tri a b with h | h | h
  · rw [h, less_asymm h]; rfl
  · subst h; rw [less_irrefl, (same_iff a a).2 rfl]; rfl
  · rw [h, less_asymm h]
    have : sameB a b = false := by
      have : ¬ sameB a b = true := fun k => by rw [same_iff] at k; subst k; rw [less_irrefl] at h; cases h
      simpa using this
    rw [this]; rfl
/-- 'a <= b', as the walk spells it. -/
theorem leq_less (a b : ByteArray) : (lessB a b || sameB a b) = !lessB b a := by
  rw [← gtr_less a b]; cases lessB a b <;> cases sameB a b <;> rfl
/- The order of strings in the walk, by a name that the walk does not open. -/
@[go_sem] theorem bl_less (a b : ByteArray) : Op.bytesLess a.toList b.toList = lessB a b := rfl
@[go_sem] theorem bl_leq (a b : ByteArray) : (lessB a b || a.toList == b.toList) = !lessB b a := leq_less a b
@[go_sem] theorem bl_gtr (a b : ByteArray) : (!lessB a b && !(a.toList == b.toList)) = lessB b a := gtr_less a b
section
variable {P : Program} {w : World}
/-- The builtins max and min of two strings. -/
@[go_sem] theorem run_max_str2 (ts : Array TypeId) (t : TypeId) (x y : ByteArray) : (Builtin.max_ ts t #[.string x, .string y]).run P w = .ok (.string (maxB x y)) w := by
  have h : Op.bytesLess x.toList y.toList = lessB x y := rfl
  cases e : lessB x y <;> simp [Builtin.max_, Builtin.max2, Op.stringOp, asBool, maxB, h, e]
@[go_sem] theorem run_min_str2 (ts : Array TypeId) (t : TypeId) (x y : ByteArray) : (Builtin.min_ ts t #[.string x, .string y]).run P w = .ok (.string (minB x y)) w := by
  have h : Op.bytesLess x.toList y.toList = lessB x y := rfl
  have h2 : (x.toList == y.toList) = sameB x y := rfl
  have h3 := leq_less x y
  cases e : lessB y x <;> simp [Builtin.min_, Builtin.min2, Op.stringOp, asBool, minB, h, h2, h3, e]
end
end Go.Proofs.YtaophiknldkfdaaGreatDoor
/- Trees of nodes by their numbers, as lists: no program, no memory. The keys are of any type, with an order. -/
namespace Go.Proofs.YtaophiknldkfdaaGreatDoor

/-- Keys, as byte strings: their order, whether they may be. -/
structure Ks (α : Type) where
  s : α → ByteArray
  lt : α → α → Bool
  ok : α → Bool
  hlt : ∀ a b, lessB (s a) (s b) = lt a b
  hok : ∀ a, (decide (1 ≤ (s a).size) && decide ((s a).size ≤ 12)) = ok a
  hsz : ∀ a, (s a).size ≤ 140737488355328

structure Nd (α : Type) where
  keys : List α
  rows : List Int
  kids : List Int
  leaf : Bool
structure Tr (α : Type) where
  nodes : List (Nd α)
  root : Int
  free : List Int
/-- A node's part of the keys: from a bound on, up to a bound; none: without. -/
abbrev Bd (α : Type) := Option α × Option α

section
variable {α : Type} (K : Ks α)
def riseFrom : α → List α → Bool
  | _, [] => true
  | a, b :: r => K.lt a b && riseFrom b r
def riseB : List α → Bool
  | [] => true
  | a :: r => riseFrom K a r
def lowB (b : Option α) (k : α) : Bool := match b with
  | none => true
  | some l => !K.lt k l
def highB (b : Option α) (k : α) : Bool := match b with
  | none => true
  | some h => K.lt k h
def inB (b : Bd α) (k : α) : Bool := lowB K b.1 k && highB K b.2 k
def areInB (b : Bd α) : List α → Bool
  | [] => true
  | k :: r => inB K b k && areInB b r
def rowB (n : Int) : Bool := decide (0 ≤ n) && decide (n ≤ 1073741824)
def areRowsB : List Int → Bool
  | [] => true
  | n :: r => rowB n && areRowsB r
def areKeysB : List α → Bool
  | [] => true
  | k :: r => K.ok k && areKeysB r
def listsB (n : Nd α) : Bool := match n.leaf with
  | true => decide (n.kids.length = 0) && (decide (n.rows.length = n.keys.length) && (areKeysB K n.keys && areRowsB n.rows))
  | false => decide (n.rows.length = 0) && (decide (0 < n.keys.length) && decide (n.kids.length = n.keys.length + 1))
def manyB (n : Nd α) (isRoot : Bool) : Bool := decide (n.keys.length ≤ 4) && (decide (2 ≤ n.keys.length) || isRoot)
def partB (n : Nd α) (isRoot : Bool) (b : Bd α) : Bool := manyB n isRoot && (riseB K n.keys && (areInB K b n.keys && listsB K n))
def zeroB (n : Nd α) : Bool := decide (n.keys.length = 0) && (decide (n.rows.length = 0) && (decide (n.kids.length = 0) && !n.leaf))
def nodeB (len : Nat) (i : Int) : Bool := decide (0 ≤ i) && decide (i < len)
def Tr.at (t : Tr α) (i : Int) : Option (Nd α) := if 0 ≤ i then t.nodes[i.toNat]? else none
def freeFrom (t : Tr α) : Int → List Int → Bool
  | _, [] => true
  | m, n :: r => decide (m ≤ n) && (match t.at n with
    | none => false
    | some x => zeroB x && freeFrom t (n + 1) r)
/-- The kids of a node, each with its part. -/
def kidsB (hi : Option α) : Option α → List Int → List α → List (Int × Bd α)
  | _, [], _ => []
  | lo, k :: ks, [] => (k, (lo, hi)) :: kidsB hi lo ks []
  | lo, k :: ks, x :: xs => (k, (lo, some x)) :: kidsB hi (some x) ks xs
def belowB (t : Tr α) : List (Int × Bd α) → List (Int × Bd α)
  | [] => []
  | p :: r => (match t.at p.1 with
    | none => []
    | some n => kidsB p.2.2 p.2.1 n.kids n.keys) ++ belowB t r
/-- One level: who is reached behind it; none: it may not be. -/
def levelB (t : Tr α) (leaf : Bool) : List (Int × Bd α) → List Bool → Option (List Bool)
  | [], r => some r
  | p :: l, r => match t.at p.1 with
    | none => none
    | some n => if !(r.getD p.1.toNat true) && (partB K n (decide (p.1 = t.root)) p.2 && (n.leaf == leaf)) then levelB t leaf l (r.set p.1.toNat true) else none
def levelsB (t : Tr α) : Nat → List Bool → Nat → List (Int × Bd α) → Bool
  | _, _, c, [] => decide (c + t.free.length = t.nodes.length)
  | 0, _, _, _ :: _ => false
  | f + 1, r, c, p :: l => match t.at p.1 with
    | none => false
    | some n => match levelB K t n.leaf (p :: l) r with
      | none => false
      | some r' => levelsB t f r' (c + (p :: l).length) (belowB t (p :: l))
def mayT (t : Tr α) : Bool := decide (t.nodes.length ≤ 200) && (freeFrom t 0 t.free && levelsB K t (t.nodes.length + 1) (List.replicate t.nodes.length false) 0 [(t.root, (none, none))])
end
end Go.Proofs.YtaophiknldkfdaaGreatDoor
/- Trees in memory: slices of nodes, of parts. No condition. -/
namespace Go.Proofs.YtaophiknldkfdaaGreatDoor
open Go.RowKit

/-- A node, with the slice values of its lists. -/
structure Nv (α : Type) where
  kv : Value
  rv : Value
  cv : Value
  n : Nd α
def nil3 (α : Type) : Nv α := ⟨.slice none 0 0, .slice none 0 0, .slice none 0 0, ⟨[], [], [], false⟩⟩

section
variable {α : Type} (K : Ks α)
def KeysIn (B : Nat) (w : World) (v : Value) (l : List α) : Prop := StrsIn B w v (l.map K.s)
def NodeIn (B : Nat) (w : World) (x : Nv α) : Prop := KeysIn K B w x.kv x.n.keys ∧ IntsIn B w x.rv x.n.rows ∧ IntsIn B w x.cv x.n.kids
/-- The slice v holds the nodes P, four cells each, in a block from B on. -/
def NodesIn (B : Nat) (w : World) (v : Value) (P : List (Nv α)) : Prop :=
  P.length ≤ 1000000 ∧ (∃ p cap, v = .slice p P.length cap ∧ P.length ≤ cap ∧ ∀ i, i < P.length → ∃ b off, p = some ⟨b, off, none⟩ ∧ B ≤ b ∧ b < w.heap.size ∧
    w.cell? ⟨b, off + i * 4, none⟩ = some (P.getD i (nil3 α)).kv ∧ w.cell? ⟨b, off + i * 4 + 1, none⟩ = some (P.getD i (nil3 α)).rv ∧ w.cell? ⟨b, off + i * 4 + 2, none⟩ = some (P.getD i (nil3 α)).cv ∧ w.cell? ⟨b, off + i * 4 + 3, none⟩ = some (.bool (P.getD i (nil3 α)).n.leaf)) ∧
  ∀ x ∈ P, NodeIn K B w x
/-- The tree's three parts: nodes, the root's number, those that are free. -/
def TreeIn (B : Nat) (w : World) (v u : Value) (P : List (Nv α)) (F : List Int) : Prop := NodesIn K B w v P ∧ IntsIn B w u F

variable {K}
theorem KeysIn.stays {B : Nat} {w w' : World} {v : Value} {l : List α} (h : KeysIn K B w v l) (hs : Stays B w w') : KeysIn K B w' v l := StrsIn.stays h hs
theorem KeysIn.below {B : Nat} {w w' : World} {v : Value} {l : List α} (h : KeysIn K B w v l) (hs : Below w.heap.size w w') : KeysIn K B w' v l := StrsIn.below h hs
theorem NodeIn.stays {B : Nat} {w w' : World} {x : Nv α} (h : NodeIn K B w x) (hs : Stays B w w') : NodeIn K B w' x := ⟨h.1.stays hs, h.2.1.stays hs, h.2.2.stays hs⟩
theorem NodeIn.below {B : Nat} {w w' : World} {x : Nv α} (h : NodeIn K B w x) (hs : Below w.heap.size w w') : NodeIn K B w' x := h.stays (Stays.of hs)
theorem NodesIn.stays {B : Nat} {w w' : World} {v : Value} {P : List (Nv α)} (h : NodesIn K B w v P) (hs : Stays B w w') : NodesIn K B w' v P := by
  obtain ⟨h0, ⟨p, cap, h1, h3, h4⟩, h5⟩ := h
  refine ⟨h0, ⟨p, cap, h1, h3, fun i hi => ?_⟩, fun x hx => (h5 x hx).stays hs⟩
  obtain ⟨b, off, e, hB, h2, c0, c1, c2, c3⟩ := h4 i hi
  exact ⟨b, off, e, hB, Nat.lt_of_lt_of_le h2 hs.1, by rw [hs.cell hB h2]; exact c0, by rw [hs.cell hB h2]; exact c1, by rw [hs.cell hB h2]; exact c2, by rw [hs.cell hB h2]; exact c3⟩
theorem NodesIn.below {B : Nat} {w w' : World} {v : Value} {P : List (Nv α)} (h : NodesIn K B w v P) (hs : Below w.heap.size w w') : NodesIn K B w' v P := h.stays (Stays.of hs)
theorem TreeIn.stays {B : Nat} {w w' : World} {v u : Value} {P : List (Nv α)} {F : List Int} (h : TreeIn K B w v u P F) (hs : Stays B w w') : TreeIn K B w' v u P F := ⟨h.1.stays hs, h.2.stays hs⟩
theorem TreeIn.below {B : Nat} {w w' : World} {v u : Value} {P : List (Nv α)} {F : List Int} (h : TreeIn K B w v u P F) (hs : Below w.heap.size w w') : TreeIn K B w' v u P F := h.stays (Stays.of hs)
theorem KeysIn.mono {B B' : Nat} {w : World} {v : Value} {l : List α} (h : KeysIn K B w v l) (hB : B' ≤ B) : KeysIn K B' w v l := StrsIn.mono h hB
theorem NodeIn.mono {B B' : Nat} {w : World} {x : Nv α} (h : NodeIn K B w x) (hB : B' ≤ B) : NodeIn K B' w x := ⟨h.1.mono hB, h.2.1.mono hB, h.2.2.mono hB⟩
theorem NodesIn.mono {B B' : Nat} {w : World} {v : Value} {P : List (Nv α)} (h : NodesIn K B w v P) (hB : B' ≤ B) : NodesIn K B' w v P := by
  obtain ⟨h0, ⟨p, cap, h1, h3, h4⟩, h5⟩ := h
  refine ⟨h0, ⟨p, cap, h1, h3, fun i hi => ?_⟩, fun x hx => (h5 x hx).mono hB⟩
  obtain ⟨b, off, e, hb, r⟩ := h4 i hi
  exact ⟨b, off, e, by omega, r⟩
theorem TreeIn.mono {B B' : Nat} {w : World} {v u : Value} {P : List (Nv α)} {F : List Int} (h : TreeIn K B w v u P F) (hB : B' ≤ B) : TreeIn K B' w v u P F := ⟨h.1.mono hB, h.2.mono hB⟩

theorem KeysIn.slice {B : Nat} {w : World} {v : Value} {l : List α} (h : KeysIn K B w v l) : ∃ p cap, v = .slice p l.length cap ∧ l.length ≤ cap := by
  obtain ⟨p, cap, e, h1⟩ := StrsIn.slice h
  rw [List.length_map] at e h1
  exact ⟨p, cap, e, h1⟩
theorem KeysIn.len {B : Nat} {w : World} {v : Value} {l : List α} (h : KeysIn K B w v l) : l.length ≤ 1000000 := by have := h.1; rw [List.length_map] at this; exact this
theorem KeysIn.at {B : Nat} {w : World} {v : Value} {l : List α} (h : KeysIn K B w v l) : ∃ p cap, v = .slice p l.length cap ∧ l.length ≤ 1000000 ∧ ∀ k, k < l.length → ∃ b off x, p = some ⟨b, off, none⟩ ∧ Lt b w.heap.size ∧ w.cell? ⟨b, off + k, none⟩ = some (.string (K.s x)) ∧ l.drop k = x :: l.drop (k + 1) ∧ l[k]? = some x := by
  obtain ⟨p, cap, e, h0, ht⟩ := StrsIn.at h
  rw [List.length_map] at e h0 ht
  refine ⟨p, cap, e, h0, fun k hk => ?_⟩
  obtain ⟨b, off, s, e2, hb, hc, -, hs, -⟩ := ht k hk
  rw [List.getElem?_map] at hs
  have hx : l[k]? = some l[k] := List.getElem?_eq_getElem hk
  rw [hx] at hs
  simp only [Option.map_some, Option.some.injEq] at hs
  exact ⟨b, off, l[k], e2, hb, by rw [hc, hs], List.drop_eq_getElem_cons hk, hx⟩
theorem IntsIn.at {B : Nat} {w : World} {v : Value} {l : List Int} (h : IntsIn B w v l) : ∃ p cap, v = .slice p l.length cap ∧ l.length ≤ 1000000 ∧ ∀ k, k < l.length → ∃ b off x, p = some ⟨b, off, none⟩ ∧ Lt b w.heap.size ∧ w.cell? ⟨b, off + k, none⟩ = some (.int .i64 x) ∧ l.drop k = x :: l.drop (k + 1) ∧ l[k]? = some x := h.toAt.at
/-- The k-th node. -/
theorem NodesIn.at {B : Nat} {w : World} {v : Value} {P : List (Nv α)} (h : NodesIn K B w v P) : ∃ p cap, v = .slice p P.length cap ∧ P.length ≤ 1000000 ∧ P.length ≤ cap ∧ ∀ k, k < P.length → ∃ b off x, p = some ⟨b, off, none⟩ ∧ Lt b w.heap.size ∧
    w.cell? ⟨b, off + k * 4, none⟩ = some x.kv ∧ w.cell? ⟨b, off + k * 4 + 1, none⟩ = some x.rv ∧ w.cell? ⟨b, off + k * 4 + 2, none⟩ = some x.cv ∧ w.cell? ⟨b, off + k * 4 + 3, none⟩ = some (.bool x.n.leaf) ∧ NodeIn K B w x ∧ P[k]? = some x := by
  obtain ⟨h0, ⟨p, cap, h1, h3, h4⟩, h5⟩ := h
  refine ⟨p, cap, h1, h0, h3, fun k hk => ?_⟩
  obtain ⟨b, off, e, -, h2, c0, c1, c2, c3⟩ := h4 k hk
  have hx : P[k]? = some (P.getD k (nil3 α)) := by simp [List.getD, hk]
  exact ⟨b, off, _, e, h2, c0, c1, c2, c3, h5 _ (List.mem_of_getElem? hx), hx⟩
theorem NodesIn.slice {B : Nat} {w : World} {v : Value} {P : List (Nv α)} (h : NodesIn K B w v P) : ∃ p cap, v = .slice p P.length cap ∧ P.length ≤ cap := by
  obtain ⟨-, ⟨p, cap, e, h3, -⟩, -⟩ := h; exact ⟨p, cap, e, h3⟩
end

/-- What the nodes are, without their values. -/
def ndsOf {α : Type} (P : List (Nv α)) : List (Nd α) := P.map Nv.n
theorem nds_len {α : Type} (P : List (Nv α)) : (ndsOf P).length = P.length := List.length_map ..
theorem nds_at {α : Type} {P : List (Nv α)} {r : Int} {F : List Int} {k : Nat} {x : Nv α} (h : P[k]? = some x) : (Tr.mk (ndsOf P) r F).at k = some x.n := by
  unfold Tr.at ndsOf
  rw [if_pos (by omega)]
  simp [h]
theorem nds_none {α : Type} {P : List (Nv α)} {r : Int} {F : List Int} {i : Int} (h : nodeB P.length i = false) : (Tr.mk (ndsOf P) r F).at i = none := by
  unfold Tr.at
  split
  · rename_i h0
    have : ¬ i < P.length := by
      intro h1
      unfold nodeB at h
      rw [decide_eq_true h0, decide_eq_true h1] at h
      cases h
    exact List.getElem?_eq_none (by rw [nds_len]; omega)
  · rfl
theorem node_in {len : Nat} {i : Int} (h : nodeB len i = true) : ∃ k : Nat, i = k ∧ k < len := by
  unfold nodeB at h
  simp only [Bool.and_eq_true, decide_eq_true_eq] at h
  exact ⟨i.toNat, by omega, by omega⟩
end Go.Proofs.YtaophiknldkfdaaGreatDoor
/- A region that draws its order, whose operations read and whose calls may make memory, walked once in the order of the text: by the library's theorem on quiet regions, at the class of the worlds that are more than the first. No condition. -/
namespace Go.Proofs.YtaophiknldkfdaaGreatDoor
open Go.RowKit

/-- How much more a world is: so many draws, these blocks. -/
structure MoreBy where
  n : Nat
  es : Array Obj
instance : Inhabited MoreBy := ⟨⟨0, #[]⟩⟩

theorem wp_region_quiet_more {P : Program} {id : Nat} {Q : Exit → Act → World → Prop} {a : Act} {w : World} {l : List Oper} (hm : P.follows .mixedOrders = true) (hB : Region.lexB .any l.toArray = true)
    (h : wpQuiet P l.toArray (fun w' => ∃ p : MoreBy, w' = more w p.n p.es) (fun a' => ∀ w', (∃ p : MoreBy, w' = more w p.n p.es) → Q .normal a' w') l a) : (Code.region id l.toArray true).wp P Q a w :=
  wp_region_quiet (C := fun w' => ∃ p : MoreBy, w' = more w p.n p.es) hm hB ⟨⟨w.drawn + 1, #[]⟩, by simp [more]⟩ (by simpa using h)

/-- A callee's contract, met in a world of the class. -/
theorem Calls.more_of {P : Program} {f : FuncId} {args : Array Value} {w : World} {n : Nat} {es : Array Obj} {v : Value}
    (h : Calls P f args (more w n es) fun e w' => e = .returned v ∧ Below (more w n es).heap.size (more w n es) w') : Calls P f args (more w n es) fun e w'' => e = .returned v ∧ ∃ p : MoreBy, w'' = more w p.n p.es :=
  h.mono fun _ _ ⟨he, hb⟩ => ⟨he, by obtain ⟨m, fs, rfl⟩ := below_more hb; exact ⟨⟨m, es ++ fs⟩, more_more ..⟩⟩
theorem Calls.more_bool {P : Program} {f : FuncId} {args : Array Value} {w : World} {n : Nat} {es : Array Obj} {b : Bool} (c : Bool) (hc : b = c)
    (h : Calls P f args (more w n es) fun e w' => e = .returned (.bool b) ∧ Below (more w n es).heap.size (more w n es) w') : Calls P f args (more w n es) fun e w'' => e = .returned (.bool c) ∧ ∃ p : MoreBy, w'' = more w p.n p.es := by
  subst hc; exact Calls.more_of h
theorem Calls.more_same_bool {P : Program} {f : FuncId} {args : Array Value} {w : World} {n : Nat} {es : Array Obj} {b : Bool} (c : Bool) (hc : b = c)
    (h : Calls P f args (more w n es) fun e w' => e = .returned (.bool b) ∧ more w n es = w') : Calls P f args (more w n es) fun e w'' => e = .returned (.bool c) ∧ ∃ p : MoreBy, w'' = more w p.n p.es := by
  subst hc; exact h.mono fun _ _ ⟨he, hw⟩ => ⟨he, ⟨n, es⟩, hw.symm⟩
theorem Calls.more_same_int {P : Program} {f : FuncId} {args : Array Value} {w : World} {n : Nat} {es : Array Obj} {b : Int} (c : Int) (hc : b = c)
    (h : Calls P f args (more w n es) fun e w' => e = .returned (.int .i64 b) ∧ more w n es = w') : Calls P f args (more w n es) fun e w'' => e = .returned (.int .i64 c) ∧ ∃ p : MoreBy, w'' = more w p.n p.es := by
  subst hc; exact h.mono fun _ _ ⟨he, hw⟩ => ⟨he, ⟨n, es⟩, hw.symm⟩
theorem Calls.more_same {P : Program} {f : FuncId} {args : Array Value} {w : World} {n : Nat} {es : Array Obj} {v : Value}
    (h : Calls P f args (more w n es) fun e w' => e = .returned v ∧ more w n es = w') : Calls P f args (more w n es) fun e w'' => e = .returned v ∧ ∃ p : MoreBy, w'' = more w p.n p.es :=
  h.mono fun _ _ ⟨he, hw⟩ => ⟨he, ⟨n, es⟩, hw.symm⟩
end Go.Proofs.YtaophiknldkfdaaGreatDoor
/- Blocks that are known whole. No condition. -/
namespace Go.Proofs.YtaophiknldkfdaaGreatDoor
open Go.RowKit

/-- The block b holds just these cells. -/
def Blc (w : World) (b : Nat) (T : TypeId) (cs : Array Value) : Prop := w.heap[b]? = some (.cells cs T (0, 0))
theorem Blc.lt {w : World} {b : Nat} {T : TypeId} {cs : Array Value} (h : Blc w b T cs) : b < w.heap.size := (Array.getElem?_eq_some_iff.1 h).1
theorem Blc.cell {w : World} {b : Nat} {T : TypeId} {cs : Array Value} (h : Blc w b T cs) (i : Nat) : w.cell? ⟨b, i, none⟩ = cs[i]? := cell_of_row w b i cs T (0, 0) h
theorem Blc.free {w : World} {b : Nat} {T : TypeId} {cs : Array Value} (h : Blc w b T cs) (i : Nat) : w.frozen? ⟨b, i, none⟩ = false := frozen_of_row w b i cs T h
theorem Blc.grown {w w' : World} {b : Nat} {T : TypeId} {cs : Array Value} (h : Blc w b T cs) {row : Option Nat} (hg : w.grownBy w' row) (hne : row ≠ some b) : Blc w' b T cs := (hg.block b h.lt (fun e => hne e.symm)).trans h
theorem Blc.below {w w' : World} {b : Nat} {T : TypeId} {cs : Array Value} (h : Blc w b T cs) (hb : Below w.heap.size w w') : Blc w' b T cs := (hb.block b h.lt).trans h
theorem Blc.set {w : World} {b : Nat} {T : TypeId} {cs : Array Value} (h : Blc w b T cs) (i : Nat) (u : Value) : Blc (w.setCell ⟨b, i, none⟩ u) b T (cs.setIfInBounds i u) := heap_setCell_same w b i cs T u h
theorem Blc.far {w : World} {b : Nat} {T : TypeId} {cs : Array Value} (h : Blc w b T cs) {a : Addr} (hne : b ≠ a.block) (u : Value) : Blc (w.setCell a u) b T cs := (heap_setCell_other w a b u hne).trans h
theorem Blc.new (w : World) (T : TypeId) (cs : Array Value) : Blc (w.alloc (.cells cs T)) w.heap.size T cs := heap_alloc_new w _
theorem Blc.alloc {w : World} {b : Nat} {T : TypeId} {cs : Array Value} (h : Blc w b T cs) (o : Obj) : Blc (w.alloc o) b T cs := (Below.heap_alloc w o b h.lt).trans h
theorem Blc.mre {X : World} {b : Nat} {T : TypeId} {cs : Array Value} (h : Blc X b T cs) (n : Nat) (es : Array Obj) : Blc (more X n es) b T cs := (more_block X n es b h.lt).trans h
end Go.Proofs.YtaophiknldkfdaaGreatDoor
/- Levels of trees: what each step tells. No program, no memory. -/
namespace Go.Proofs.YtaophiknldkfdaaGreatDoor

section
variable {α : Type} {K : Ks α} {t : Tr α}
def leafOf (t : Tr α) (i : Int) : Bool := match t.at i with
  | some n => n.leaf
  | none => false
theorem leafOf_at {i : Int} {n : Nd α} (h : t.at i = some n) : leafOf t i = n.leaf := by unfold leafOf; rw [h]
def nextB (K : Ks α) (t : Tr α) (f c : Nat) (l : List (Int × Bd α)) : Option (List Bool) → Bool
  | none => false
  | some r' => levelsB K t f r' (c + l.length) (belowB t l)
theorem levels_step (f : Nat) (r : List Bool) (c : Nat) (p : Int × Bd α) (l : List (Int × Bd α)) :
    levelsB K t (f + 1) r c (p :: l) = nextB K t f c (p :: l) (levelB K t (leafOf t p.1) (p :: l) r) := by
  rw [levelsB]
  cases h : t.at p.1 with
  | none => simp only [levelB, h, nextB]
  | some n =>
    rw [leafOf_at h]
    dsimp only
    cases levelB K t n.leaf (p :: l) r <;> rfl
theorem level_out {leaf : Bool} {p : Int × Bd α} {l : List (Int × Bd α)} {r : List Bool} (h : t.at p.1 = none) : levelB K t leaf (p :: l) r = none := by rw [levelB, h]
theorem level_twice {leaf : Bool} {p : Int × Bd α} {l : List (Int × Bd α)} {r : List Bool} (h : r.getD p.1.toNat true = true) : levelB K t leaf (p :: l) r = none := by
  rw [levelB]
  cases t.at p.1 with
  | none => rfl
  | some n => simp only [h]; rfl
theorem level_part {leaf : Bool} {p : Int × Bd α} {l : List (Int × Bd α)} {r : List Bool} {n : Nd α} (h : t.at p.1 = some n) (hp : partB K n (decide (p.1 = t.root)) p.2 = false) : levelB K t leaf (p :: l) r = none := by
  rw [levelB, h]
  simp only [hp, Bool.false_and, Bool.and_false]; rfl
theorem level_leaf {leaf : Bool} {p : Int × Bd α} {l : List (Int × Bd α)} {r : List Bool} {n : Nd α} (h : t.at p.1 = some n) (hp : (n.leaf == leaf) = false) : levelB K t leaf (p :: l) r = none := by
  rw [levelB, h]
  simp only [hp, Bool.and_false]; rfl
theorem level_go {leaf : Bool} {p : Int × Bd α} {l : List (Int × Bd α)} {r : List Bool} {n : Nd α} (h : t.at p.1 = some n) (hr : r.getD p.1.toNat true = false) (hp : partB K n (decide (p.1 = t.root)) p.2 = true) (hl : (n.leaf == leaf) = true) :
    levelB K t leaf (p :: l) r = levelB K t leaf l (r.set p.1.toNat true) := by
  rw [levelB, h]
  simp only [hr, hp, hl]; rfl
/-- What a level that may be has. -/
theorem level_some {leaf : Bool} {l : List (Int × Bd α)} {r r' : List Bool} (h : levelB K t leaf l r = some r') : ∀ p ∈ l, ∃ n, t.at p.1 = some n ∧ partB K n (decide (p.1 = t.root)) p.2 = true := by
  induction l generalizing r with
  | nil => intro p hp; cases hp
  | cons q s ih =>
    intro p hp
    cases hq : t.at q.1 with
    | none => rw [level_out hq] at h; cases h
    | some n =>
      cases h1 : r.getD q.1.toNat true with
      | true => rw [level_twice h1] at h; cases h
      | false =>
        cases h2 : partB K n (decide (q.1 = t.root)) q.2 with
        | false => rw [level_part hq h2] at h; cases h
        | true =>
          cases h3 : n.leaf == leaf with
          | false => rw [level_leaf hq h3] at h; cases h
          | true =>
            rw [level_go hq h1 h2 h3] at h
            rcases List.mem_cons.1 hp with rfl | hp
            · exact ⟨n, hq, h2⟩
            · exact ih h p hp
theorem count_set {r : List Bool} {k : Nat} (h : r.getD k true = false) : k < r.length ∧ (r.set k true).count true = r.count true + 1 := by
  have hk : k < r.length := by
    apply Classical.byContradiction
    intro hn
    rw [List.getD_eq_getElem?_getD, List.getElem?_eq_none (by omega)] at h
    cases h
  refine ⟨hk, ?_⟩
  have hv : r[k] = false := by
    have := h; rw [List.getD_eq_getElem?_getD, List.getElem?_eq_getElem hk] at this; exact this
  induction r generalizing k with
  | nil => simp at hk
  | cons a s ih =>
    cases k with
    | zero =>
      simp only [List.getElem_cons_zero] at hv
      subst hv
      simp
    | succ k =>
      have := ih (k := k) (by simpa [List.getD] using h) (by simpa using hk) (by simpa using hv)
      simp only [List.set_cons_succ, List.count_cons, this]
      omega
theorem count_le (r : List Bool) : r.count true ≤ r.length := List.count_le_length
theorem part_lists {n : Nd α} {q : Bool} {b : Bd α} (h : partB K n q b = true) : n.kids.length ≤ n.keys.length + 1 ∧ n.keys.length ≤ 4 := by
  unfold partB manyB listsB at h
  simp only [Bool.and_eq_true, decide_eq_true_eq] at h
  obtain ⟨⟨h1, -⟩, -, -, h2⟩ := h
  refine ⟨?_, h1⟩
  split at h2
  · simp only [Bool.and_eq_true, decide_eq_true_eq] at h2; omega
  · simp only [Bool.and_eq_true, decide_eq_true_eq] at h2; omega
theorem below_len {l : List (Int × Bd α)} (h : ∀ p ∈ l, ∃ n, t.at p.1 = some n ∧ n.kids.length ≤ 5) : (belowB t l).length ≤ l.length * 5 := by
  induction l with
  | nil => simp [belowB]
  | cons p r ih =>
    obtain ⟨n, hn, h5⟩ := h p (List.mem_cons_self ..)
    have := ih (fun q hq => h q (List.mem_cons_of_mem _ hq))
    rw [belowB, hn]
    simp only [List.length_append, List.length_cons]
    have hk : ∀ (hi lo : Option α) (cs : List Int) (ks : List α), (kidsB hi lo cs ks).length = cs.length := by
      intro hi lo cs
      induction cs generalizing lo with
      | nil => intro ks; rfl
      | cons c r ih2 => intro ks; cases ks <;> simp [kidsB, ih2]
    rw [hk]
    omega
end
end Go.Proofs.YtaophiknldkfdaaGreatDoor
/- What package wait computes, as functions of lists: no program, no memory. -/
namespace Go.Proofs.YtaophiknldkfdaaGreatDoor

def has (l : List Int) (x : Int) : Bool := l.contains x
def risesFrom : Int → List Int → Bool
  | _, [] => true
  | a, n :: r => decide (a < n) && risesFrom n r
def risesB (l : List Int) : Bool := risesFrom (-1) l
def mayFrom : Int → List Wt → Bool
  | _, [] => true
  | a, x :: r => decide (a < x.1) && (risesB x.2 && (!has x.2 x.1 && mayFrom x.1 r))
def mayB (l : List Wt) : Bool := decide (l.length ≤ 6) && mayFrom (-1) l
def isOwn (l : List Wt) (o : Int) : Bool := l.any fun x => x.1 == o
/-- The waits of o. -/
def first (o : Int) : List Wt → List Wt → List Wt
  | [], p => p
  | x :: r, p => first o r (if x.1 = o then p ++ [x] else p)
/-- One round of a follower: whoever y waits for, each once. -/
def scan (y : Wt) : List Wt → List Wt → List Wt
  | [], p => p
  | x :: r, p => scan y r (if has y.2 x.1 && !isOwn p x.1 then p ++ [x] else p)
def follow (l : List Wt) : Nat → Nat → List Wt → List Wt
  | 0, _, p => p
  | g + 1, i, p => match p[i]? with
    | none => p
    | some y => follow l g (i + 1) (scan y l p)
def followed (l : List Wt) (o : Int) : List Wt := follow l (l.length + 1) 0 (first o l [])
def leadsB (l : List Wt) (a b : Int) : Bool := (followed l a).any fun x => has x.2 b
def circleFrom (l : List Wt) (o : Int) : List Wt → List Int → List Int
  | [], p => p
  | x :: r, p => circleFrom l o r (if leadsB l o x.1 && leadsB l x.1 o then p ++ [x.1] else p)
def circleL (l : List Wt) (o : Int) : List Int := circleFrom l o l []
def gather : List Wt → List Int → List Int
  | [], p => p
  | x :: r, p => gather r (p ++ x.2)
def ageB (ages : List Int) (o : Int) : Bool := decide (0 ≤ o) && (decide (o < ages.length) && !(ages.getD o.toNat 0 == 0))
def agesAll (ages : List Int) (l : List Int) : Bool := l.all (ageB ages)
def allAges (ages : List Int) (l : List Wt) : Bool := l.all fun x => ageB ages x.1 && agesAll ages x.2
def agesFrom : Int → List Int → Bool
  | _, [] => true
  | a, n :: r => (!decide (n < 0) && !(decide (0 < n) && n == a)) && agesFrom n r
def sorted (l : List Int) : List Int := l.mergeSort fun x y => decide (x ≤ y)
def agesB (l : List Int) : Bool := agesFrom 0 (sorted l)

def ageOf (ages : List Int) (o : Int) : Int := ages.getD o.toNat 0
def maxFrom (ages : List Int) : Int → List Int → Int
  | m, [] => m
  | m, x :: r => maxFrom ages (if ageOf ages m < ageOf ages x then x else m) r
def youngL (ages : List Int) : List Int → Int
  | [] => 0
  | x :: r => maxFrom ages x r
def OldIn (ages : List Int) (o : Int) : Prop := 0 ≤ o ∧ o < ages.length
theorem ages_low {a n : Int} (r : List Int) (h : n < 0) : agesFrom a (n :: r) = false := by
  rw [agesFrom, decide_eq_true h]; rfl
theorem ages_same {n : Int} (r : List Int) (h : 0 < n) : agesFrom n (n :: r) = false := by
  rw [agesFrom, decide_eq_true h]; simp
theorem ages_zero {a : Int} (r : List Int) : agesFrom a (0 :: r) = agesFrom 0 r := by
  rw [agesFrom]; simp
theorem ages_go {a n : Int} (r : List Int) (h : 0 < n) (h2 : ¬ n = a) : agesFrom a (n :: r) = agesFrom n r := by
  rw [agesFrom, decide_eq_false (by omega), decide_eq_true h]; simp [h2]
theorem agesFrom_of {a : Int} {l : List Int} (h : ∀ x ∈ l, 0 < x) (hp : l.Pairwise (· < ·)) (ha : ∀ x ∈ l, a < x) : agesFrom a l = true := by
  induction l generalizing a with
  | nil => rfl
  | cons n r ih =>
    rw [ages_go _ (h n (List.mem_cons_self ..)) (by have := ha n (List.mem_cons_self ..); omega)]
    rw [List.pairwise_cons] at hp
    exact ih (fun x hx => h x (List.mem_cons_of_mem _ hx)) hp.2 hp.1
theorem agesB_of {l : List Int} (h : ∀ x ∈ l, 0 < x) (hn : l.Nodup) : agesB l = true := by
  have hp : (sorted l).Perm l := List.mergeSort_perm l _
  have hs : (sorted l).Pairwise fun a b => decide (a ≤ b) = true := List.pairwise_mergeSort (fun a b c h1 h2 => by simp at *; omega) (fun a b => by simp; omega) l
  have hd : (sorted l).Nodup := hp.nodup_iff.2 hn
  have h2 : ∀ x ∈ sorted l, 0 < x := fun x hx => h x (hp.mem_iff.1 hx)
  refine agesFrom_of h2 ?_ h2
  have hd' : (sorted l).Pairwise (· ≠ ·) := hd
  exact (hs.and hd').imp (fun h => by have h1 := h.1; have h3 := h.2; simp at h1 h3; omega)
theorem rises_go {a x : Int} (l : List Int) (h : a < x) : risesFrom a (x :: l) = risesFrom x l := by rw [risesFrom, decide_eq_true h, Bool.true_and]
theorem rises_no {a x : Int} (l : List Int) (h : x ≤ a) : risesFrom a (x :: l) = false := by rw [risesFrom, decide_eq_false (by omega), Bool.false_and]
theorem risesFrom_lt {a : Int} {l : List Int} (h : risesFrom a l = true) : ∀ x ∈ l, a < x := by
  induction l generalizing a with
  | nil => intro x hx; cases hx
  | cons n r ih =>
    simp only [risesFrom, Bool.and_eq_true, decide_eq_true_eq] at h
    intro x hx
    rcases List.mem_cons.1 hx with rfl | hx
    · exact h.1
    · have := ih h.2 x hx; omega
theorem risesFrom_sorted {a : Int} {l : List Int} (h : risesFrom a l = true) : l.Pairwise (· < ·) := by
  induction l generalizing a with
  | nil => exact .nil
  | cons n r ih =>
    simp only [risesFrom, Bool.and_eq_true, decide_eq_true_eq] at h
    exact .cons (risesFrom_lt h.2) (ih h.2)
theorem rises_le {l : List Int} (h : risesB l = true) : l.Pairwise (· ≤ ·) := (risesFrom_sorted h).imp (fun h => by omega)

theorem may_low {a : Int} {x : Wt} (l : List Wt) (h : x.1 ≤ a) : mayFrom a (x :: l) = false := by rw [mayFrom, decide_eq_false (by omega), Bool.false_and]
theorem may_fall {a : Int} {x : Wt} (l : List Wt) (h : risesB x.2 = false) : mayFrom a (x :: l) = false := by rw [mayFrom, h, Bool.false_and, Bool.and_false]
theorem may_self {a : Int} {x : Wt} (l : List Wt) (h : has x.2 x.1 = true) : mayFrom a (x :: l) = false := by rw [mayFrom, h]; simp
theorem may_go {a : Int} {x : Wt} (l : List Wt) (h : a < x.1) (h1 : risesB x.2 = true) (h2 : has x.2 x.1 = false) : mayFrom a (x :: l) = mayFrom x.1 l := by rw [mayFrom, decide_eq_true h, h1, h2]; rfl
theorem mayFrom_lt {a : Int} {l : List Wt} (h : mayFrom a l = true) : ∀ x ∈ l, a < x.1 := by
  induction l generalizing a with
  | nil => intro x hx; cases hx
  | cons n r ih =>
    simp only [mayFrom, Bool.and_eq_true, decide_eq_true_eq] at h
    intro x hx
    rcases List.mem_cons.1 hx with rfl | hx
    · exact h.1
    · have := ih h.2.2.2 x hx; omega
theorem mayFrom_rises {a : Int} {l : List Wt} (h : mayFrom a l = true) : ∀ x ∈ l, risesB x.2 = true := by
  induction l generalizing a with
  | nil => intro x hx; cases hx
  | cons n r ih =>
    simp only [mayFrom, Bool.and_eq_true, decide_eq_true_eq] at h
    intro x hx
    rcases List.mem_cons.1 hx with rfl | hx
    · exact h.2.1
    · exact ih h.2.2.2 x hx
theorem may_rises {l : List Wt} (h : mayB l = true) : ∀ x ∈ l, risesB x.2 = true := by
  simp only [mayB, Bool.and_eq_true] at h; exact mayFrom_rises h.2
theorem may_len {l : List Wt} (h : mayB l = true) : l.length ≤ 6 := by
  simp only [mayB, Bool.and_eq_true, decide_eq_true_eq] at h; exact h.1

/- followed is not longer than the list itself. -/
theorem countP_lt {α : Type} {p q : α → Bool} {l : List α} (h : ∀ x ∈ l, p x = true → q x = true) {y : α} (hy : y ∈ l) (hp : p y = false) (hq : q y = true) : l.countP p + 1 ≤ l.countP q := by
  induction l with
  | nil => cases hy
  | cons x r ih =>
    have hle : r.countP p ≤ r.countP q := List.countP_mono_left (fun z hz => h z (List.mem_cons_of_mem _ hz))
    rcases List.mem_cons.1 hy with rfl | hy
    · rw [List.countP_cons_of_neg (by simp [hp]), List.countP_cons_of_pos hq]; omega
    · have := ih (fun z hz => h z (List.mem_cons_of_mem _ hz)) hy
      have hx := h x (List.mem_cons_self ..)
      cases hpx : p x
      · rw [List.countP_cons_of_neg (by simp [hpx])]
        have : r.countP q ≤ (x :: r).countP q := by rw [List.countP_cons]; omega
        omega
      · rw [List.countP_cons_of_pos hpx, List.countP_cons_of_pos (hx hpx)]; omega
/-- A path that has as many waits of l as it is long. -/
def Fits (l p : List Wt) : Prop := p.length ≤ l.countP (fun x => isOwn p x.1) ∧ ∀ x ∈ p, x ∈ l
theorem Fits.le {l p : List Wt} (h : Fits l p) : p.length ≤ l.length := Nat.le_trans h.1 List.countP_le_length
theorem isOwn_mono {p : List Wt} {x : Wt} {o : Int} (h : isOwn p o = true) : isOwn (p ++ [x]) o = true := by
  unfold isOwn at *
  rw [List.any_append, h]; rfl
theorem isOwn_self (p : List Wt) (x : Wt) : isOwn (p ++ [x]) x.1 = true := by
  simp [isOwn, List.any_append]
theorem Fits.add {l p : List Wt} {x : Wt} (h : Fits l p) (hx : x ∈ l) (hn : isOwn p x.1 = false) : Fits l (p ++ [x]) := by
  refine ⟨?_, ?_⟩
  · have := countP_lt (p := fun z : Wt => isOwn p z.1) (q := fun z : Wt => isOwn (p ++ [x]) z.1) (l := l) (fun z _ hz => isOwn_mono hz) hx hn (isOwn_self p x)
    have h1 := h.1
    simp only [List.length_append, List.length_cons, List.length_nil]
    omega
  · intro z hz
    rcases List.mem_append.1 hz with hz | hz
    · exact h.2 z hz
    · simp at hz; rw [hz]; exact hx

/- The first step: with owners that rise, at most one wait. -/
theorem first_none {a o : Int} {l : List Wt} (h : mayFrom a l = true) (ho : o ≤ a) (p : List Wt) : first o l p = p := by
  induction l generalizing a p with
  | nil => rfl
  | cons x r ih =>
    have hx := mayFrom_lt h x (List.mem_cons_self ..)
    simp only [mayFrom, Bool.and_eq_true, decide_eq_true_eq] at h
    rw [first, if_neg (by omega)]
    exact ih h.2.2.2 (by omega) p
theorem scan_length (y : Wt) (l p : List Wt) : p.length ≤ (scan y l p).length := by
  induction l generalizing p with
  | nil => exact Nat.le_refl _
  | cons x r ih =>
    rw [scan]
    refine Nat.le_trans ?_ (ih _)
    split <;> simp
theorem scan_fits {l : List Wt} (y : Wt) (r p : List Wt) (hr : ∀ x ∈ r, x ∈ l) (h : Fits l p) : Fits l (scan y r p) := by
  induction r generalizing p with
  | nil => exact h
  | cons x r ih =>
    rw [scan]
    refine ih _ (fun z hz => hr z (List.mem_cons_of_mem _ hz)) ?_
    split
    · rename_i hc
      simp only [Bool.and_eq_true, Bool.not_eq_true'] at hc
      exact h.add (hr x (List.mem_cons_self ..)) hc.2
    · exact h
theorem follow_done {l : List Wt} {g i : Nat} {p : List Wt} (h : p.length ≤ i) : follow l g i p = p := by
  cases g with
  | zero => rfl
  | succ g => rw [follow, List.getElem?_eq_none h]
theorem follow_step {l : List Wt} {g i : Nat} {p : List Wt} {y : Wt} (h : p[i]? = some y) : follow l (g + 1) i p = follow l g (i + 1) (scan y l p) := by
  rw [follow, h]
theorem scan_yes {y x : Wt} (r p : List Wt) (h : has y.2 x.1 = true) (h2 : isOwn p x.1 = false) : scan y (x :: r) p = scan y r (p ++ [x]) := by
  rw [scan, h, h2]; rfl
theorem scan_no {y x : Wt} (r p : List Wt) (h : has y.2 x.1 = false) : scan y (x :: r) p = scan y r p := by
  rw [scan, h]; rfl
theorem scan_old {y x : Wt} (r p : List Wt) (h2 : isOwn p x.1 = true) : scan y (x :: r) p = scan y r p := by
  rw [scan, h2]; simp
theorem first_yes {o : Int} {x : Wt} (r p : List Wt) (h : x.1 = o) : first o (x :: r) p = first o r (p ++ [x]) := by rw [first, if_pos h]
theorem first_no {o : Int} {x : Wt} (r p : List Wt) (h : ¬ x.1 = o) : first o (x :: r) p = first o r p := by rw [first, if_neg h]
theorem first_fits {a o : Int} {l r : List Wt} (h : mayFrom a r = true) (hr : ∀ x ∈ r, x ∈ l) : Fits l (first o r []) := by
  induction r generalizing a with
  | nil => exact ⟨Nat.zero_le _, fun x hx => by cases hx⟩
  | cons x r ih =>
    simp only [mayFrom, Bool.and_eq_true, decide_eq_true_eq] at h
    rw [first]
    by_cases hx : x.1 = o
    · rw [if_pos hx, first_none h.2.2.2 (by omega)]
      have h0 : Fits l [] := ⟨Nat.zero_le _, fun x hx => by cases hx⟩
      exact h0.add (hr x (List.mem_cons_self ..)) rfl
    · rw [if_neg hx]
      exact ih h.2.2.2 (fun z hz => hr z (List.mem_cons_of_mem _ hz))
theorem follow_fits {l : List Wt} (g i : Nat) (p : List Wt) (h : Fits l p) : Fits l (follow l g i p) := by
  induction g generalizing i p with
  | zero => exact h
  | succ g ih =>
    rw [follow]
    split
    · exact h
    · exact ih _ _ (scan_fits _ l p (fun _ h => h) h)
theorem followed_fits {l : List Wt} (h : mayB l = true) (o : Int) : Fits l (followed l o) := by
  simp only [mayB, Bool.and_eq_true] at h
  exact follow_fits _ _ _ (first_fits h.2 (fun _ h => h))
end Go.Proofs.YtaophiknldkfdaaGreatDoor
