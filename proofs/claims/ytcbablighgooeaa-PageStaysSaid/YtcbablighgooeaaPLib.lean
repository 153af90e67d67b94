/- The library's functions, by their contracts: clone, sort, contains, over slices that read as lists. -/
import Derived.Test.YtcbablighgooeaaPPlain
import Derived.Test.YtcbablighgooeaaShelf
import Derived.WalkKit
import Derived.WalkSpells
import Derived.IntWalk
import Derived.Lib.OwnBridge
import Derived.Sort.Grow
namespace Go.Proofs.Ytcbablighgooeaa
open Go.RowKit

/-- A row of numbers that the call owns. -/
def OwnI (B : Nat) (w : World) (v : Value) (l : List Int) : Prop := w.ownsRow B 3 1 v l.length (l.map (Value.int .i64))
theorem OwnI.at {B : Nat} {w : World} {v : Value} {l : List Int} (h : OwnI B w v l) (hl : l.length ≤ 1000000) : IntsAt w v l := IntsAt.own h hl
theorem OwnI.nil (B : Nat) (w : World) : OwnI B w (.slice none 0 0) [] := World.ownsRow_nil _ _ _ _

theorem below_grow {B : Nat} {w0 w : World} (h : Below B w0 w) (hB : B ≤ w.heap.size) (os : Array Obj) : Below B w0 (Sort.grow w os) :=
  ⟨h.os, h.tape, h.output, by have := h.size; simp [Sort.grow]; omega, fun k hk => by
    rw [← h.block k hk]
    simp only [Sort.grow]
    rw [Array.getElem?_append_left (by omega)]⟩

theorem clone_any (w : World) (v : Value) (l : List Int) (h : IntsAt w v l) :
    Calls Try.prog 28 #[v] w fun e w' => ∃ u, e = .returned u ∧ OwnI w.heap.size w' u l ∧ Below w.heap.size w w' := by
  rcases h.form with ⟨rfl, p, cap, rfl⟩ | ⟨b, off, cap, rfl, hp, hcap, hl, hb, hc⟩
  · cases p with
    | none =>
      refine (Try.slices_Clone_int_nil 0 cap w).mono ?_
      rintro e w' ⟨rfl, rfl⟩
      exact ⟨_, rfl, OwnI.nil _ _, Below.refl _ _⟩
    | some a =>
      refine (Try.slices_Clone_int_zero a cap w).mono ?_
      rintro e w' ⟨u, rfl, ho, -, hb⟩
      exact ⟨u, rfl, ho, hb⟩
  · refine (Try.slices_Clone_int b off l.length cap l w (Nat.le_refl _) (by omega) hc).mono ?_
    rintro e w' ⟨u, rfl, ho, -, hb⟩
    rw [List.take_length] at ho
    exact ⟨u, rfl, ho, hb⟩

theorem sorted_length (l : List Int) : (sorted l).length = l.length := List.length_mergeSort _
theorem sort_any (B : Nat) (w : World) (v : Value) (l : List Int) (h : OwnI B w v l) (hB : B ≤ w.heap.size) (hl : l.length ≤ 1000000) :
    Calls Try.prog 18 #[v] w fun e w' => e = .returned (.tuple #[]) ∧ OwnI B w' v (sorted l) ∧ Below B w w' := by
  by_cases hv : v = .slice none 0 0
  · subst hv
    have hl0 : l = [] := by
      rcases h.2 with ⟨-, h0⟩ | ⟨g, cap, cur, e0, -⟩
      · exact List.length_eq_zero_iff.1 h0
      · cases e0
    subst hl0
    refine (Try.slices_Sort_int_none none 0 w).mono ?_
    rintro e w' ⟨rfl, rfl⟩
    exact ⟨rfl, by simpa [sorted] using OwnI.nil B _, Below.refl _ _⟩
  · obtain ⟨g, cap, rfl, hb, hg, hc, hm, -, hH⟩ := Go.Lib.holds_of_ownsRow h hv
    refine (Try.slices_Sort_int g 0 cap l w hH hg (by omega)).mono ?_
    rintro e w' ⟨rfl, n, os, rfl⟩
    have ho := Go.Lib.ownsRow_putRow (q := n) (ys := sorted l) h (sorted_length l) (Nat.le_refl _)
    have hbel : Below B w (Sort.putRow (Value.int .i64) (Sort.ahead w n) g 0 (sorted l).toArray) := Go.Lib.below_putRow (Below.refl _ _) hb
    refine ⟨rfl, ?_, below_grow hbel (by have := hbel.size; omega) os⟩
    have h1 : OwnI B (Sort.putRow (Value.int .i64) (Sort.ahead w n) g 0 (sorted l).toArray) (.slice (some ⟨g, 0, none⟩) l.length cap) (sorted l) := by
      unfold OwnI
      rw [sorted_length]
      rw [List.take_of_length_le (by rw [sorted_length]; exact Nat.le_refl _)] at ho
      exact ho
    exact own_below h1 (below_grow (Below.refl _ _) (Nat.le_refl _) os)


theorem OwnI.inn {B : Nat} {w : World} {v : Value} {l : List Int} (h : OwnI B w v l) (hl : l.length ≤ 1000000) : IntsIn B w v l := IntsIn.own h hl
theorem OwnI.below {B : Nat} {w w' : World} {u : Value} {l : List Int} (h : OwnI B w u l) (hb : Below w.heap.size w w') : OwnI B w' u l := own_below h hb
theorem OwnI.slice {B : Nat} {w : World} {u : Value} {l : List Int} (ho : OwnI B w u l) : ∃ q qc, u = .slice q l.length qc := by
  rcases ho.2 with ⟨rfl, h0⟩ | ⟨g, c, cur, rfl, -⟩
  · exact ⟨none, 0, by rw [h0]⟩
  · exact ⟨_, _, rfl⟩
theorem OwnI.snoc {B : Nat} {w : World} {v : Value} {l : List Int} {y : Int} (h : w.ownsRow B 3 1 v (l.length + 1) (l.map (Value.int .i64) ++ [.int .i64 y])) : OwnI B w v (l ++ [y]) := by
  unfold OwnI; rw [List.length_append, List.map_append]; exact h

/-- A row of strings that the call owns. -/
def OwnS (B : Nat) (w : World) (v : Value) (S : List ByteArray) : Prop := w.ownsRow B 9 1 v S.length (S.map Value.string)
theorem OwnS.inn {B : Nat} {w : World} {v : Value} {S : List ByteArray} (h : OwnS B w v S) (hl : S.length ≤ 1000000) (hz : ∀ s ∈ S, s.size ≤ 140737488355328) : StrsIn B w v S := StrsIn.own h hl hz
theorem OwnS.nil (B : Nat) (w : World) : OwnS B w (.slice none 0 0) [] := World.ownsRow_nil _ _ _ _
theorem OwnS.below {B : Nat} {w w' : World} {u : Value} {S : List ByteArray} (h : OwnS B w u S) (hb : Below w.heap.size w w') : OwnS B w' u S := own_below h hb
theorem OwnS.snoc {B : Nat} {w : World} {v : Value} {l : List ByteArray} {y : ByteArray} (h : w.ownsRow B 9 1 v (l.length + 1) (l.map Value.string ++ [.string y])) : OwnS B w v (l ++ [y]) := by
  unfold OwnS; rw [List.length_append, List.map_append]; exact h
theorem OwnS.slice {B : Nat} {w : World} {u : Value} {l : List ByteArray} (ho : OwnS B w u l) (hp : 0 < l.length) : ∃ g cap, u = .slice (some ⟨g, 0, none⟩) l.length cap ∧ B ≤ g ∧ g < w.heap.size := by
  rcases ho.2 with ⟨-, h0⟩ | ⟨g, c, cur, rfl, hb, hg, -⟩
  · omega
  · exact ⟨g, c, rfl, hb, (Array.getElem?_eq_some_iff.1 hg).1⟩
theorem OwnS.form {B : Nat} {w : World} {u : Value} {l : List ByteArray} (ho : OwnS B w u l) : ∃ q qc, u = .slice q l.length qc := by
  rcases ho.2 with ⟨rfl, h0⟩ | ⟨g, c, cur, rfl, -⟩
  · exact ⟨none, 0, by rw [h0]⟩
  · exact ⟨_, _, rfl⟩
theorem OwnS.cell {B : Nat} {w : World} {g cap : Nat} {l : List ByteArray} (h : OwnS B w (.slice (some ⟨g, 0, none⟩) l.length cap) l) (j : Nat) (hj : j < l.length) : w.cell? ⟨g, j, none⟩ = some (.string (l.getD j E0)) ∧ w.frozen? ⟨g, j, none⟩ = false := by
  refine ⟨?_, World.ownsRow.frozenAt h j⟩
  have := World.ownsRow.cellAt h j (by omega)
  rw [this]; simp [List.getD, hj]
theorem OwnS.set {B : Nat} {w : World} {g cap : Nat} {l : List ByteArray} (h : OwnS B w (.slice (some ⟨g, 0, none⟩) l.length cap) l) (j : Nat) (s : ByteArray) : OwnS B (w.setCell ⟨g, j, none⟩ (.string s)) (.slice (some ⟨g, 0, none⟩) l.length cap) (l.set j s) := by
  have := (World.ownsRow.stored h j (.string s)).1
  unfold OwnS
  rw [List.length_set, List.map_set]; exact this

/-- What was made behind a world stays the call's own, whatever the blocks ahead of it hold. -/
theorem own_swap {X Y : World} {n m B : Nat} {es : Array Obj} {e : TypeId} {s : Nat} {v : Value} {k : Nat} {xs : List Value} (h : (more X n es).ownsRow X.heap.size e s v k xs) (hs : Y.heap.size = X.heap.size) (hB : B ≤ X.heap.size) : (more Y m es).ownsRow B e s v k xs := by
  refine ⟨h.1, ?_⟩
  rcases h.2 with h2 | ⟨g, cap, cur, hv, hb, hg, r⟩
  · exact .inl h2
  · refine .inr ⟨g, cap, cur, hv, by omega, ?_, r⟩
    simp only [more] at hg ⊢
    rw [Array.getElem?_append_right (by omega)] at hg ⊢
    rw [hs]; exact hg

theorem cloneS_any (B : Nat) (w : World) (v : Value) (l : List ByteArray) (h : StrsIn B w v l) :
    Calls Try.prog 27 #[v] w fun e w' => ∃ u, e = .returned u ∧ OwnS w.heap.size w' u l ∧ Below w.heap.size w w' := by
  rcases h.form with ⟨rfl, p, cap, rfl⟩ | ⟨b, off, cap, rfl, hp, hcap, hl, hb, hc⟩
  · cases p with
    | none =>
      refine (Try.slices_Clone_string_nil 0 cap w).mono ?_
      rintro e w' ⟨rfl, rfl⟩
      exact ⟨_, rfl, OwnS.nil _ _, Below.refl _ _⟩
    | some a =>
      refine (Try.slices_Clone_string_zero a cap w).mono ?_
      rintro e w' ⟨u, rfl, ho, -, hb⟩
      exact ⟨u, rfl, ho, hb⟩
  · refine (Try.slices_Clone_string b off l.length cap l w (Nat.le_refl _) (by omega) hc).mono ?_
    rintro e w' ⟨u, rfl, ho, -, hb⟩
    rw [List.take_length] at ho
    exact ⟨u, rfl, ho, hb⟩
theorem contains_any (w : World) (v : Value) (l : List Int) (x : Int) (h : IntsAt w v l) :
    Calls Try.prog 26 #[v, .int .i64 x] w fun e w' => e = .returned (.bool (has l x)) ∧ w = w' := by
  rcases h.form with ⟨rfl, p, cap, rfl⟩ | ⟨b, off, cap, rfl, hp, hcap, hl, hb, hc⟩
  · refine (Try.slices_Contains_int_empty p cap x w).mono ?_
    rintro e w' ⟨rfl, rfl⟩
    exact ⟨rfl, rfl⟩
  · refine (Try.slices_Contains_int b off l.length cap l x w (Nat.le_refl _) (by omega) hc).mono ?_
    rintro e w' ⟨rfl, rfl⟩
    rw [List.take_length]
    exact ⟨rfl, rfl⟩
end Go.Proofs.Ytcbablighgooeaa
