/- Blocks that are known whole. No condition. -/
import Derived.Test.YtgaalahlkllkaaaPMem
namespace Go.Proofs.Ytgaalahlkllkaaa
open Go.RowKit

/-- The block b holds just these cells. -/
def Blc (w : World) (b : Nat) (T : TypeId) (cs : Array Value) : Prop := w.heap[b]? = some (.cells cs T (0, 0))
theorem Blc.lt {w : World} {b : Nat} {T : TypeId} {cs : Array Value} (h : Blc w b T cs) : b < w.heap.size := (Array.getElem?_eq_some_iff.1 h).1
theorem Blc.cell {w : World} {b : Nat} {T : TypeId} {cs : Array Value} (h : Blc w b T cs) (i : Nat) : w.cell? ⟨b, i, none⟩ = cs[i]? := cell_of_row w b i cs T (0, 0) h
theorem Blc.free {w : World} {b : Nat} {T : TypeId} {cs : Array Value} (h : Blc w b T cs) (i : Nat) : w.frozen? ⟨b, i, none⟩ = false := frozen_of_row w b i cs T h
theorem Blc.grown {w w' : World} {b : Nat} {T : TypeId} {cs : Array Value} (h : Blc w b T cs) {row : Option Nat} (hg : w.grownBy w' row) (hne : row ≠ some b) : Blc w' b T cs := (hg.block b h.lt (fun e => hne e.symm)).trans h
theorem Blc.below {w w' : World} {b : Nat} {T : TypeId} {cs : Array Value} (h : Blc w b T cs) (hb : Below w.heap.size w w') : Blc w' b T cs := (hb.block b h.lt).trans h
theorem Blc.set {w : World} {b : Nat} {T : TypeId} {cs : Array Value} (h : Blc w b T cs) (i : Nat) (u : Value) : Blc (w.setCell ⟨b, i, none⟩ u) b T (cs.setIfInBounds i u) := heap_setCell_same w b i cs T u h
theorem Blc.far {w : World} {b : Nat} {T : TypeId} {cs : Array Value} (h : Blc w b T cs) {a : Addr} (hne : b ≠ a.block) (u : Value) : Blc (w.setCell a u) b T cs := (heap_setCell_other w a b u hne).trans h
theorem Blc.new (w : World) (T : TypeId) (cs : Array Value) : Blc (w.alloc (.cells cs T)) w.heap.size T cs := heap_alloc_new w _
theorem Blc.alloc {w : World} {b : Nat} {T : TypeId} {cs : Array Value} (h : Blc w b T cs) (o : Obj) : Blc (w.alloc o) b T cs := (Below.heap_alloc w o b h.lt).trans h
theorem Blc.mre {X : World} {b : Nat} {T : TypeId} {cs : Array Value} (h : Blc X b T cs) (n : Nat) (es : Array Obj) : Blc (more X n es) b T cs := (more_block X n es b h.lt).trans h
end Go.Proofs.Ytgaalahlkllkaaa
