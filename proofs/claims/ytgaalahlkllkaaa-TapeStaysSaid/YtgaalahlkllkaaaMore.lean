/- Worlds behind a call that only makes memory: 'more X n es' is the world X with the blocks es behind its own. No condition. -/
import Derived.WalkKit
import Derived.WalkSpells
import Derived.Lib.Hide
import Derived.Deep.QuietTactic
import Derived.BigQuiet
namespace Go.Proofs.Ytgaalahlkllkaaa
open Go.RowKit

/-- The world X, with blocks es behind its own, after n draws. -/
def more (X : World) (n : Nat) (es : Array Obj) : World := { X with heap := X.heap ++ es, drawn := n }

theorem below_more {X w' : World} (hb : Below X.heap.size X w') : ∃ n es, w' = more X n es := by
  refine ⟨w'.drawn, w'.heap.extract X.heap.size w'.heap.size, ?_⟩
  obtain ⟨h1, h2, h3, h4, h5⟩ := hb
  cases w' with
  | mk heap tape drawn os output =>
    cases X with
    | mk heap0 tape0 drawn0 os0 output0 =>
      simp only [more] at *
      subst h1 h2 h3
      congr 1
      apply Array.ext_getElem?
      intro i
      by_cases hi : i < heap0.size
      · rw [h5 i hi, Array.getElem?_append_left hi]
      · rw [Array.getElem?_append_right (by omega), Array.getElem?_extract]
        by_cases hj : i < heap.size
        · rw [if_pos (by omega)]; congr 1; omega
        · rw [if_neg (by omega), Array.getElem?_eq_none (by omega)]

/- A block's number below the heap's size, said so that simp needs no side goal beyond one. -/
def Lt (a b : Nat) : Prop := a < b
def Mid (a b s : Nat) : Prop := b ≤ a ∧ a < b + s
theorem Lt.out {a b : Nat} (h : Lt a b) : a < b := h
@[go_sem] theorem Lt_self (a : Nat) : Lt a (a + 1) = True := by simp [Lt]
@[go_sem] theorem Mid_self (a : Nat) : Mid a a 1 = True := by simp [Mid]
@[go_sem] theorem Lt_add (a b s : Nat) : Lt a (b + s) = (Lt a b ∨ Mid a b s) := by
  simp only [Lt, Mid, eq_iff_iff]; omega
@[go_sem] theorem cell_past (w : World) (o : Obj) (n i : Nat) (hn : Lt n w.heap.size) : (w.alloc o).cell? ⟨n, i, none⟩ = w.cell? ⟨n, i, none⟩ := World.cell?_alloc_past o n i hn
@[go_sem] theorem frozen_past (w : World) (o : Obj) (n i : Nat) (hn : Lt n w.heap.size) : (w.alloc o).frozen? ⟨n, i, none⟩ = w.frozen? ⟨n, i, none⟩ := World.frozen?_alloc_past o n i hn
@[go_sem] theorem set_past (w : World) (o : Obj) (n i : Nat) (v : Value) (hn : Lt n w.heap.size) : (w.alloc o).setCell ⟨n, i, none⟩ v = (w.setCell ⟨n, i, none⟩ v).alloc o := World.setCell_alloc_past o n i v hn
@[go_sem, simp] theorem set_size (w : World) (a : Addr) (v : Value) : (w.setCell a v).heap.size = w.heap.size := by simp [World.setCell]
@[go_sem, simp] theorem more_size (X : World) (n : Nat) (es : Array Obj) : (more X n es).heap.size = X.heap.size + es.size := by simp [more]
theorem more_block (X : World) (n : Nat) (es : Array Obj) (b : Nat) (h : b < X.heap.size) : (more X n es).heap[b]? = X.heap[b]? := by
  simp only [more]; rw [Array.getElem?_append_left h]
@[go_sem] theorem more_cell (X : World) (n : Nat) (es : Array Obj) (b o : Nat) (h : Lt b X.heap.size) : (more X n es).cell? ⟨b, o, none⟩ = X.cell? ⟨b, o, none⟩ :=
  World.cell?_of_block (w := X) (a := ⟨b, o, none⟩) (more_block X n es b h)
@[go_sem] theorem more_frozen (X : World) (n : Nat) (es : Array Obj) (b o : Nat) (h : Lt b X.heap.size) : (more X n es).frozen? ⟨b, o, none⟩ = X.frozen? ⟨b, o, none⟩ :=
  World.frozen?_of_block (w := X) (a := ⟨b, o, none⟩) (more_block X n es b h)
@[go_sem] theorem more_setCell (X : World) (n : Nat) (es : Array Obj) (b o : Nat) (v : Value) (h : Lt b X.heap.size) : (more X n es).setCell ⟨b, o, none⟩ v = more (X.setCell ⟨b, o, none⟩ v) n es := by
  have h := h.out
  simp only [more, World.setCell]
  congr 1
  apply Array.ext_getElem?
  intro i
  rw [Array.getElem?_modify]
  by_cases hi : i < X.heap.size
  · rw [Array.getElem?_append_left hi, Array.getElem?_append_left (by simpa using hi), Array.getElem?_modify]
  · rw [Array.getElem?_append_right (by omega), Array.getElem?_append_right (by simp; omega)]
    rw [if_neg (by omega)]; simp
@[go_sem] theorem more_drew (X : World) (n : Nat) (es : Array Obj) : (more X n es).drew = more X (n + 1) es := rfl
@[go_sem] theorem more_drewN (X : World) (n m : Nat) (es : Array Obj) : (more X n es).drewN m = more X (n + m) es := rfl
@[go_sem] theorem more_of_drew (X : World) (n : Nat) (es : Array Obj) : more X.drew n es = more X n es := rfl
theorem more_more (X : World) (n m : Nat) (es fs : Array Obj) : more (more X n es) m fs = more X m (es ++ fs) := by
  simp [more, Array.append_assoc]
@[go_sem] theorem more_tape (X : World) (n : Nat) (es : Array Obj) : (more X n es).tape = X.tape := rfl
@[go_sem] theorem more_os (X : World) (n : Nat) (es : Array Obj) : (more X n es).os = X.os := rfl

theorem nw_trans {w w1 w2 : World} (h : Below w.heap.size w w1) (k : Below w1.heap.size w1 w2) : Below w.heap.size w w2 := h.trans (k.mono h.size)
theorem nw_alloc {w w1 : World} (h : Below w.heap.size w w1) (o : Obj) : Below w.heap.size w (w1.alloc o) := h.alloc h.size o
theorem nw_drew {w w1 : World} (h : Below w.heap.size w w1) : Below w.heap.size w w1.drew := h.drew
theorem nw_drewN {w w1 : World} (h : Below w.heap.size w w1) (n : Nat) : Below w.heap.size w (w1.drewN n) := ⟨h.os, h.tape, h.output, h.size, h.block⟩
theorem nw_set {w w1 : World} (h : Below w.heap.size w w1) {p : Addr} (hp : w.heap.size ≤ p.block) (u : Value) : Below w.heap.size w (w1.setCell p u) := h.setCell hp u
theorem nw_more {w w1 : World} (h : Below w.heap.size w w1) (n : Nat) (es : Array Obj) : Below w.heap.size w (more w1 n es) :=
  ⟨h.os, h.tape, h.output, by rw [more_size]; have := h.size; omega, fun k hk => by rw [more_block _ _ _ _ (by have := h.size; omega)]; exact h.block k hk⟩
end Go.Proofs.Ytgaalahlkllkaaa
