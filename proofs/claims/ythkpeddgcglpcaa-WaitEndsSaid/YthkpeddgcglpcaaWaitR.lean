/- What WaitEnds makes: a wait in a variable of its own, whose For grows. No condition. -/
import Derived.Test.YthkpeddgcglpcaaWaitQ
import Derived.Test.YthkpeddgcglpcaaWEnds
import Derived.Deep.AppendLies
import Derived.OneCell
namespace Go.Proofs.Ythkpeddgcglpcaa
open Go.RowKit

theorem LLAt.below {w w' : World} {v : Value} {nl : Nat} {F : Nat → List Wv} (h : LLAt w v nl F) (hb : Below w.heap.size w w') : LLAt w' v nl F := by
  obtain ⟨p, cap, e, h0, h1⟩ := h
  refine ⟨p, cap, e, h0, fun i hi => ?_⟩
  obtain ⟨b, off, u, e2, hlt, hc, ⟨⟨q, qc, e3, e4, hq⟩, hf⟩, h2, h3⟩ := h1 i hi
  refine ⟨b, off, u, e2, Nat.lt_of_lt_of_le hlt hb.size, by rw [hb.cell (p := ⟨b, off + i, none⟩) hlt]; exact hc, ⟨⟨q, qc, e3, e4, fun j hj => ?_⟩, fun x hx => ?_⟩, h2, h3⟩
  · obtain ⟨b2, o2, e5, hl, c1, c2⟩ := hq j hj
    exact ⟨b2, o2, e5, Nat.lt_of_lt_of_le hl hb.size, by rw [hb.cell (p := ⟨b2, o2 + j * 2, none⟩) hl]; exact c1, by rw [hb.cell (p := ⟨b2, o2 + j * 2 + 1, none⟩) hl]; exact c2⟩
  · obtain ⟨p2, c2, e5, e6, h5⟩ := hf x hx
    refine ⟨p2, c2, e5, e6, fun j hj => ?_⟩
    obtain ⟨b2, o2, e7, hl, c3⟩ := h5 j hj
    exact ⟨b2, o2, e7, Nat.lt_of_lt_of_le hl hb.size, by rw [hb.cell (p := ⟨b2, o2 + j, none⟩) hl]; exact c3⟩

/-- The block X is a wait of the call's own. -/
def BoxW (B : Nat) (w : World) (X : Nat) (o : Int) (u : Value) : Prop := w.ownsRow B 41 2 (.slice (some ⟨X, 0, none⟩) 1 1) 1 [.int .i64 o, u]
theorem BoxW.made (B : Nat) (w : World) (hB : B ≤ w.heap.size) (o : Int) (u : Value) : BoxW B (w.alloc (Obj.cells #[.int .i64 o, u] 41)) w.heap.size o u := by
  have h := World.ownsRow_lit (e := 41) (size := 2) (base := B) w #[.int .i64 o, u] 1 hB (by unfold maxLen; omega) (by simp)
  exact h
theorem BoxW.cell0 {B : Nat} {w : World} {X : Nat} {o : Int} {u : Value} (h : BoxW B w X o u) : w.cell? ⟨X, 0, none⟩ = some (.int .i64 o) := by
  have := World.ownsRow.cellAt h 0 (by omega); simpa using this
theorem BoxW.cell1 {B : Nat} {w : World} {X : Nat} {o : Int} {u : Value} (h : BoxW B w X o u) : w.cell? ⟨X, 1, none⟩ = some u := by
  have := World.ownsRow.cellAt h 1 (by omega); simpa using this
theorem BoxW.free {B : Nat} {w : World} {X : Nat} {o : Int} {u : Value} (h : BoxW B w X o u) (j : Nat) : w.frozen? ⟨X, j, none⟩ = false := World.ownsRow.frozenAt h j
theorem BoxW.lt {B : Nat} {w : World} {X : Nat} {o : Int} {u : Value} (h : BoxW B w X o u) : B ≤ X ∧ X < w.heap.size := World.ownsRow.lt h X rfl
theorem BoxW.grown {B : Nat} {w w1 : World} {X : Nat} {o : Int} {u a : Value} {l : List Int} (h : BoxW B w X o u) (ha : OwnI B w a l) (hg : w.grownBy w1 a.ownBlock) : BoxW B w1 X o u :=
  World.ownsRow.kept h hg (own_apart h ha (by decide))
theorem OwnI.store {B : Nat} {w : World} {X i : Nat} {o : Int} {u a z : Value} {l : List Int} (ha : OwnI B w a l) (h : BoxW B w X o u) : OwnI B (w.setCell ⟨X, i, none⟩ z) a l := by
  refine ownsRow_setCell_other ha ?_ z
  rcases own_apart ha h (by decide) with e | e
  · rw [e]; simp
  · exact e
theorem ForsOwn.store {B : Nat} {w : World} {X i : Nat} {o : Int} {u z : Value} {P : List Wv} (hf : ForsOwn B w P) (h : BoxW B w X o u) : ForsOwn B (w.setCell ⟨X, i, none⟩ z) P := fun x hx => (hf x hx).store h
theorem OwnW.store {B : Nat} {w : World} {X i : Nat} {v z : Value} {P : List Wv} (ho : OwnW B w v P) (hx : v.ownBlock ≠ some X) : OwnW B (w.setCell ⟨X, i, none⟩ z) v P := ownsRow_setCell_other ho hx z
theorem BoxW.set {B : Nat} {w : World} {X : Nat} {o : Int} {u z : Value} (h : BoxW B w X o u) : BoxW B (w.setCell ⟨X, 1, none⟩ z) X o z := by
  have := (World.ownsRow.stored h 1 z).1
  simpa [BoxW] using this
theorem below_box {w wy : World} {X i : Nat} {o : Int} {u z : Value} (hb : Below w.heap.size w wy) (h : BoxW w.heap.size wy X o u) : Below w.heap.size w (wy.setCell ⟨X, i, none⟩ z) := hb.setCell h.lt.1 z
theorem nil_ok {B : Nat} {w : World} {Q : List Wv} (h : ForsOwn B w Q) : ∀ x ∈ Q, NilOk x := by
  intro x hx
  have ho := h x hx
  rcases ho.2 with ⟨e, h0⟩ | ⟨g, cap, cur, e, -⟩
  · exact .inl ⟨e, List.length_eq_zero_iff.1 h0⟩
  · exact .inr ⟨g, 0, cap, e⟩
theorem end_unlike (b : Nat) : Unlike (endAges b) := by
  constructor
  · intro i x hx
    have hi : i < 8 := by have := (List.getElem?_eq_some_iff.1 hx).1; rw [end_len] at this; exact this
    unfold endAges at hx
    rw [e_get b 8 i hi] at hx
    obtain rfl := Option.some.inj hx
    exact eAge_pos b i
  · intro i j x y hj hx hy
    have hi : i < 8 := by have := (List.getElem?_eq_some_iff.1 hx).1; rw [end_len] at this; exact this
    unfold endAges at hx hy
    rw [e_get b 8 i hi] at hx
    rw [e_get b 8 j (by omega)] at hy
    obtain rfl := Option.some.inj hx
    obtain rfl := Option.some.inj hy
    intro e
    have := eAge_inj (by omega) hi e
    omega
theorem in8_of {l : List Wt} (h : (allL l).all (inAges 8) = true) : In8 l := by
  have key : ∀ n ∈ allL l, 0 ≤ n ∧ n ≤ 7 := fun n hn => by
    have := List.all_eq_true.1 h n hn
    simp only [inAges, numB, Bool.and_eq_true, decide_eq_true_eq] at this
    omega
  intro x hx
  exact ⟨key x.1 (allL_mem.2 ⟨x, hx, .inl rfl⟩), fun y hy => key y (allL_mem.2 ⟨x, hx, .inr hy⟩)⟩
theorem end_cells {w : World} {v : Value} {b : Nat} (h : IntsAt w v (endAges b)) : ∃ g off cap, v = .slice (some ⟨g, off, none⟩) 8 cap ∧ Lt g w.heap.size ∧ ∀ t, t < 8 → w.cell? ⟨g, off + t, none⟩ = some (.int .i64 (eAge b t)) := by
  rcases h.form with ⟨h0, -⟩ | ⟨g, off, cap, e, hp, hc, hl, hg, hcells⟩
  · exact absurd (congrArg List.length h0) (by rw [end_len]; simp)
  · rw [end_len] at e
    refine ⟨g, off, cap, e, hg, fun t ht => ?_⟩
    rw [hcells t (by rw [end_len]; exact ht)]
    simp [endAges, List.getD, e_get b 8 t ht]
theorem e_snocI {B : Nat} {w : World} {v : Value} {b k : Nat} (h : w.ownsRow B 3 1 v (k + 1) ((eTake b k).map (Value.int .i64) ++ [.int .i64 (eAge b k)])) : OwnI B w v (eTake b (k + 1)) := by
  unfold OwnI; rw [e_len, e_snoc, List.map_append]; exact h
end Go.Proofs.Ythkpeddgcglpcaa
