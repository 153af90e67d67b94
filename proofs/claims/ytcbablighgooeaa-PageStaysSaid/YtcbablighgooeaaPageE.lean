/- Contract of package page: Cut. -/
import Derived.Test.YtcbablighgooeaaPageD
namespace Go.Proofs.Ytcbablighgooeaa
open Go.RowKit

theorem sort_grown (B : Nat) (w : World) (v : Value) (l : List Int) (h : OwnI B w v l) (hl : l.length ≤ 1000000) :
    Calls Try.prog 18 #[v] w fun e w' => e = .returned (.tuple #[]) ∧ OwnI B w' v (sorted l) ∧ w.grownBy w' v.ownBlock := by
  by_cases hv : v = .slice none 0 0
  · subst hv
    have hl0 : l = [] := by
      rcases h.2 with ⟨-, h0⟩ | ⟨g, cap, cur, e0, -⟩
      · exact List.length_eq_zero_iff.1 h0
      · cases e0
    subst hl0
    refine (Try.slices_Sort_int_none none 0 w).mono ?_
    rintro e w' ⟨rfl, rfl⟩
    exact ⟨rfl, by simpa [sorted] using OwnI.nil B _, rfl, rfl, rfl, Nat.le_refl _, fun _ _ _ => rfl⟩
  · obtain ⟨g, cap, rfl, hb, hg, hc, hm, -, hH⟩ := Go.Lib.holds_of_ownsRow h hv
    refine (Try.slices_Sort_int g 0 cap l w hH hg (by omega)).mono ?_
    rintro e w' ⟨rfl, n, os, rfl⟩
    have ho := Go.Lib.ownsRow_putRow (q := n) (ys := sorted l) h (sorted_length l) (Nat.le_refl _)
    have hbel : Below B w (Sort.putRow (Value.int .i64) (Sort.ahead w n) g 0 (sorted l).toArray) := Go.Lib.below_putRow (Below.refl _ _) hb
    have h1 : OwnI B (Sort.putRow (Value.int .i64) (Sort.ahead w n) g 0 (sorted l).toArray) (.slice (some ⟨g, 0, none⟩) l.length cap) (sorted l) := by
      unfold OwnI
      rw [sorted_length]
      rw [List.take_of_length_le (by rw [sorted_length]; exact Nat.le_refl _)] at ho
      exact ho
    have h2 := below_grow hbel (by have := hbel.size; have : B ≤ w.heap.size := by omega
                                   omega) os
    refine ⟨rfl, own_below h1 (below_grow (Below.refl _ _) (Nat.le_refl _) os), h2.os, h2.tape, h2.output, h2.size, fun k hk hne => ?_⟩
    have hgk : g ≠ k := fun e => hne (by rw [e]; rfl)
    simp only [Sort.grow]
    rw [Array.getElem?_append_left (by simpa [Sort.putRow, Sort.mapBlock, Sort.ahead] using hk)]
    simp [Sort.putRow, Sort.mapBlock, Sort.ahead, Array.getElem?_modify, hgk]

/-- A row that the call owns is no block of another kind of cells. -/
theorem OwnI.not {B : Nat} {w : World} {v : Value} {l : List Int} (h : OwnI B w v l) {b : Nat} {T : TypeId} {cs : Array Value} (hb : w.heap[b]? = some (.cells cs T (0, 0))) (hT : T ≠ 3) : v.ownBlock ≠ some b := by
  rcases h.2 with ⟨rfl, -⟩ | ⟨g, cap, cur, rfl, -, hg, -⟩
  · simp [Value.ownBlock]
  · intro e
    obtain rfl : g = b := by simpa [Value.ownBlock] using e
    rw [hb] at hg
    simp at hg
    exact hT hg.2
theorem OwnS.not {B : Nat} {w : World} {v : Value} {l : List ByteArray} (h : OwnS B w v l) {b : Nat} {T : TypeId} {cs : Array Value} (hb : w.heap[b]? = some (.cells cs T (0, 0))) (hT : T ≠ 9) : v.ownBlock ≠ some b := by
  rcases h.2 with ⟨rfl, -⟩ | ⟨g, cap, cur, rfl, -, hg, -⟩
  · simp [Value.ownBlock]
  · intro e
    obtain rfl : g = b := by simpa [Value.ownBlock] using e
    rw [hb] at hg
    simp at hg
    exact hT hg.2
/-- The block b holds just these cells. -/
def Blc (w : World) (b : Nat) (T : TypeId) (cs : Array Value) : Prop := w.heap[b]? = some (.cells cs T (0, 0))
theorem Blc.lt {w : World} {b : Nat} {T : TypeId} {cs : Array Value} (h : Blc w b T cs) : b < w.heap.size := (Array.getElem?_eq_some_iff.1 h).1
theorem Blc.cell {w : World} {b : Nat} {T : TypeId} {cs : Array Value} (h : Blc w b T cs) (i : Nat) : w.cell? ⟨b, i, none⟩ = cs[i]? := cell_of_row w b i cs T (0, 0) h
theorem Blc.free {w : World} {b : Nat} {T : TypeId} {cs : Array Value} (h : Blc w b T cs) (i : Nat) : w.frozen? ⟨b, i, none⟩ = false := frozen_of_row w b i cs T h
theorem Blc.grown {w w' : World} {b : Nat} {T : TypeId} {cs : Array Value} (h : Blc w b T cs) {row : Option Nat} (hg : w.grownBy w' row) (hne : row ≠ some b) : Blc w' b T cs := (hg.block b h.lt (fun e => hne e.symm)).trans h
theorem Blc.below {w w' : World} {b : Nat} {T : TypeId} {cs : Array Value} (h : Blc w b T cs) (hb : Below w.heap.size w w') : Blc w' b T cs := (hb.block b h.lt).trans h
theorem Blc.set {w : World} {b : Nat} {T : TypeId} {cs : Array Value} (h : Blc w b T cs) (i : Nat) (u : Value) : Blc (w.setCell ⟨b, i, none⟩ u) b T (cs.setIfInBounds i u) := heap_setCell_same w b i cs T u h
theorem Blc.far {w : World} {b : Nat} {T : TypeId} {cs : Array Value} (h : Blc w b T cs) {a : Addr} (hne : b ≠ a.block) (u : Value) : Blc (w.setCell a u) b T cs := (heap_setCell_other w a b u hne).trans h
theorem Blc.new (w : World) (T : TypeId) (cs : Array Value) : Blc (w.alloc (.cells cs T)) w.heap.size T cs := heap_alloc_new w _
theorem Blc.alloc {w : World} {b : Nat} {T : TypeId} {cs : Array Value} (h : Blc w b T cs) (o : Obj) : Blc (w.alloc o) b T cs := (Below.heap_alloc w o b h.lt).trans h
end Go.Proofs.Ytcbablighgooeaa
