/- The library's functions, by their contracts: over slices that read as lists. -/
import Derived.Test.YthkpeddgcglpcaaWPlain
import Derived.Test.YthkpeddgcglpcaaShelf
import Derived.WalkKit
import Derived.WalkSpells
import Derived.IntWalk
import Derived.Lib.OwnBridge
import Derived.Sort.Grow
namespace Go.Proofs.Ythkpeddgcglpcaa
open Go.RowKit

theorem below_drewN (w : World) (n : Nat) : Below w.heap.size w (w.drewN n) := nw_drewN (Below.refl _ _) n
theorem search_any (w : World) (v : Value) (l : List Int) (x : Int) (h : IntsAt w v l) (hs : l.Pairwise (· ≤ ·)) :
    Calls Try.prog 67 #[v, .int .i64 x] w fun e w' => ∃ n : Int, e = .returned (.tuple #[.int .i64 n, .bool (has l x)]) ∧ Below w.heap.size w w' := by
  rcases h.form with ⟨rfl, p, cap, rfl⟩ | ⟨b, off, cap, rfl, hp, hcap, hl, hb, hc⟩
  · refine (Try.slices_BinarySearch_int_empty p cap x w).mono ?_
    rintro e w' ⟨rfl, rfl⟩
    exact ⟨0, rfl, Below.refl _ _⟩
  · refine (Try.slices_BinarySearch_int b off l.length cap l x w (Nat.le_refl _) (by omega) hc (by simpa using hs)).mono ?_
    rintro e w' ⟨rfl, n, rfl⟩
    rw [List.take_length]
    exact ⟨_, rfl, below_drewN w n⟩

/-- A row of numbers that the call owns. -/
def OwnI (B : Nat) (w : World) (v : Value) (l : List Int) : Prop := w.ownsRow B 3 1 v l.length (l.map (Value.int .i64))
theorem OwnI.at {B : Nat} {w : World} {v : Value} {l : List Int} (h : OwnI B w v l) (hl : l.length ≤ 1000000) : IntsAt w v l := IntsAt.own h hl
theorem OwnI.nil (B : Nat) (w : World) : OwnI B w (.slice none 0 0) [] := World.ownsRow_nil _ _ _ _

theorem below_grow {B : Nat} {w0 w : World} (h : Below B w0 w) (hB : B ≤ w.heap.size) (os : Array Obj) : Below B w0 (Sort.grow w os) :=
  ⟨h.os, h.tape, h.output, by have := h.size; simp [Sort.grow]; omega, fun k hk => by
    rw [← h.block k hk]
    simp only [Sort.grow]
    rw [Array.getElem?_append_left (by omega)]⟩

theorem clone_any (w : World) (v : Value) (l : List Int) (h : IntsAt w v l) :
    Calls Try.prog 53 #[v] w fun e w' => ∃ u, e = .returned u ∧ OwnI w.heap.size w' u l ∧ Below w.heap.size w w' := by
  rcases h.form with ⟨rfl, p, cap, rfl⟩ | ⟨b, off, cap, rfl, hp, hcap, hl, hb, hc⟩
  · cases p with
    | none =>
      refine (Try.slices_Clone_int_nil 0 cap w).mono ?_
      rintro e w' ⟨rfl, rfl⟩
      exact ⟨_, rfl, OwnI.nil _ _, Below.refl _ _⟩
    | some a =>
      refine (Try.slices_Clone_int_zero a cap w).mono ?_
      rintro e w' ⟨u, rfl, ho, -, hb⟩
      exact ⟨u, rfl, ho, hb⟩
  · refine (Try.slices_Clone_int b off l.length cap l w (Nat.le_refl _) (by omega) hc).mono ?_
    rintro e w' ⟨u, rfl, ho, -, hb⟩
    rw [List.take_length] at ho
    exact ⟨u, rfl, ho, hb⟩

theorem sorted_length (l : List Int) : (sorted l).length = l.length := List.length_mergeSort _
theorem sort_any (B : Nat) (w : World) (v : Value) (l : List Int) (h : OwnI B w v l) (hB : B ≤ w.heap.size) (hl : l.length ≤ 1000000) :
    Calls Try.prog 36 #[v] w fun e w' => e = .returned (.tuple #[]) ∧ OwnI B w' v (sorted l) ∧ Below B w w' := by
  by_cases hv : v = .slice none 0 0
  · subst hv
    have hl0 : l = [] := by
      rcases h.2 with ⟨-, h0⟩ | ⟨g, cap, cur, e0, -⟩
      · exact List.length_eq_zero_iff.1 h0
      · cases e0
    subst hl0
    refine (Try.slices_Sort_int_none none 0 w).mono ?_
    rintro e w' ⟨rfl, rfl⟩
    exact ⟨rfl, by simpa [sorted] using OwnI.nil B _, Below.refl _ _⟩
  · obtain ⟨g, cap, rfl, hb, hg, hc, hm, -, hH⟩ := Go.Lib.holds_of_ownsRow h hv
    refine (Try.slices_Sort_int g 0 cap l w hH hg (by omega)).mono ?_
    rintro e w' ⟨rfl, n, os, rfl⟩
    have ho := Go.Lib.ownsRow_putRow (q := n) (ys := sorted l) h (sorted_length l) (Nat.le_refl _)
    have hbel : Below B w (Sort.putRow (Value.int .i64) (Sort.ahead w n) g 0 (sorted l).toArray) := Go.Lib.below_putRow (Below.refl _ _) hb
    refine ⟨rfl, ?_, below_grow hbel (by have := hbel.size; omega) os⟩
    have h1 : OwnI B (Sort.putRow (Value.int .i64) (Sort.ahead w n) g 0 (sorted l).toArray) (.slice (some ⟨g, 0, none⟩) l.length cap) (sorted l) := by
      unfold OwnI
      rw [sorted_length]
      rw [List.take_of_length_le (by rw [sorted_length]; exact Nat.le_refl _)] at ho
      exact ho
    exact own_below h1 (below_grow (Below.refl _ _) (Nat.le_refl _) os)

theorem compact_len (l : List Int) : (Go.Lib.compact l).length ≤ l.length := by
  unfold Go.Lib.compact Go.Lib.compactUpTo
  rw [List.length_map]
  exact Nat.le_trans (List.length_filter_le _ _) (by simp)
theorem compact_any (B : Nat) (w : World) (v : Value) (l : List Int) (h : OwnI B w v l) (hB : B ≤ w.heap.size) (hl : l.length ≤ 1000000) :
    Calls Try.prog 37 #[v] w fun e w' => ∃ u, e = .returned u ∧ OwnI B w' u (Go.Lib.compact l) ∧ Below B w w' := by
  by_cases hv : v = .slice none 0 0
  · subst hv
    have hl0 : l = [] := by
      rcases h.2 with ⟨-, h0⟩ | ⟨g, cap, cur, e0, -⟩
      · exact List.length_eq_zero_iff.1 h0
      · cases e0
    subst hl0
    refine (Try.slices_Compact_int_empty none 0 w).mono ?_
    rintro e w' ⟨rfl, rfl⟩
    exact ⟨_, rfl, OwnI.nil _ _, Below.refl _ _⟩
  · obtain ⟨g, cap, rfl, hb, hg, hc, hm, -, hH⟩ := Go.Lib.holds_of_ownsRow h hv
    refine (Try.slices_Compact_int g 0 cap l w hH (by omega) hc).mono ?_
    rintro e w' ⟨rfl, q, rfl⟩
    have hlen : (Go.Lib.compact l).length ≤ l.length := by
      unfold Go.Lib.compact Go.Lib.compactUpTo
      rw [List.length_map]
      exact Nat.le_trans (List.length_filter_le _ _) (by simp)
    have ho := Go.Lib.ownsRow_putRow (q := q) (k := (Go.Lib.compact l).length) (ys := Go.Lib.compact l ++ List.replicate (l.length - (Go.Lib.compact l).length) 0) h (by simp; omega) hlen
    rw [List.take_left] at ho
    exact ⟨_, rfl, ho, Go.Lib.below_putRow (Below.refl _ _) hb⟩
end Go.Proofs.Ythkpeddgcglpcaa
