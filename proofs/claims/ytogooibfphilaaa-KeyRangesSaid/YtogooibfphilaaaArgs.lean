/- Slices in memory, as lists: of strings, of ranges. No condition. -/
import Derived.Test.YtogooibfphilaaaOrd
import Derived.Test.YtogooibfphilaaaMore
namespace Go.Proofs.Ytogooibfphilaaa
open Go.RowKit

theorem ret_bool {a b : Bool} (h : a = b) : Ending.returned (.bool a) = .returned (.bool b) := by rw [h]
theorem ret_int {k : IntKind} {a b : Int} (h : a = b) : Ending.returned (.int k a) = .returned (.int k b) := by rw [h]

/-- The slice v holds the L strings S 0, S 1 .., in a block below the world's end. -/
def StrsAt (w : World) (v : Value) (L : Nat) (S : Nat → ByteArray) : Prop :=
  ∃ p cap, v = .slice p L cap ∧ L ≤ maxLen ∧ ∀ i, i < L → ∃ b off, p = some ⟨b, off, none⟩ ∧ b < w.heap.size ∧ w.cell? ⟨b, off + i, none⟩ = some (.string (S i)) ∧ (S i).size ≤ maxLen

theorem StrsAt.below {w w' : World} {v : Value} {L : Nat} {S : Nat → ByteArray} (h : StrsAt w v L S) (hb : Below w.heap.size w w') : StrsAt w' v L S := by
  obtain ⟨p, cap, h1, h3, h4⟩ := h
  refine ⟨p, cap, h1, h3, fun i hi => ?_⟩
  obtain ⟨b, off, e, h2, h5, h6⟩ := h4 i hi
  exact ⟨b, off, e, Nat.lt_of_lt_of_le h2 hb.size, by rw [hb.cell (p := ⟨b, off + i, none⟩) h2]; exact h5, h6⟩

/-- A range: its bounds, its Top. -/
structure Rg where
  lo : ByteArray
  hi : ByteArray
  top : Bool

/-- The block b of the world holds the range r. -/
def RgAt (w : World) (b : Nat) (r : Rg) : Prop := w.cell? ⟨b, 0, none⟩ = some (.string r.lo) ∧ w.cell? ⟨b, 1, none⟩ = some (.string r.hi) ∧ w.cell? ⟨b, 2, none⟩ = some (.bool r.top)

theorem RgAt.set {w : World} {d : Nat} {r0 : Rg} (h : RgAt w d r0) (lo hi : ByteArray) (top : Bool) : RgAt (((w.setCell ⟨d, 0, none⟩ (.string lo)).setCell ⟨d, 1, none⟩ (.string hi)).setCell ⟨d, 2, none⟩ (.bool top)) d ⟨lo, hi, top⟩ := by
  obtain ⟨h0, h1, h2⟩ := h
  simp [RgAt, go_sem, h0, h1, h2]
theorem RgAt.keep {w : World} {c d : Nat} {r : Rg} (h : RgAt w c r) (hn : c ≠ d) (x y z : Value) : RgAt (((w.setCell ⟨d, 0, none⟩ x).setCell ⟨d, 1, none⟩ y).setCell ⟨d, 2, none⟩ z) c r := by
  obtain ⟨h0, h1, h2⟩ := h
  have h' : ¬ d = c := fun e => hn e.symm
  simp [RgAt, go_sem, h0, h1, h2, hn, h']
theorem RgAt.more {w : World} {b : Nat} {r : Rg} (h : RgAt w b r) (hl : Lt b w.heap.size) (n : Nat) (es : Array Obj) : RgAt (more w n es) b r := by
  simp only [RgAt, more_cell _ _ _ _ _ hl]; exact h

/-- The slice v holds the L ranges R 0, R 1 .., three cells each, in a block below the world's end. -/
def RgsAt (w : World) (v : Value) (L : Nat) (R : Nat → Rg) : Prop :=
  ∃ p cap, v = .slice p L cap ∧ L ≤ maxLen ∧ ∀ i, i < L → ∃ b off, p = some ⟨b, off, none⟩ ∧ b < w.heap.size ∧
    w.cell? ⟨b, off + i * 3, none⟩ = some (.string (R i).lo) ∧ w.cell? ⟨b, off + i * 3 + 1, none⟩ = some (.string (R i).hi) ∧ w.cell? ⟨b, off + i * 3 + 2, none⟩ = some (.bool (R i).top) ∧ (R i).lo.size ≤ maxLen ∧ (R i).hi.size ≤ maxLen

theorem RgsAt.below {w w' : World} {v : Value} {L : Nat} {R : Nat → Rg} (h : RgsAt w v L R) (hb : Below w.heap.size w w') : RgsAt w' v L R := by
  obtain ⟨p, cap, h1, h3, h4⟩ := h
  refine ⟨p, cap, h1, h3, fun i hi => ?_⟩
  obtain ⟨b, off, e, h2, h5⟩ := h4 i hi
  refine ⟨b, off, e, Nat.lt_of_lt_of_le h2 hb.size, ?_⟩
  rw [hb.cell (p := ⟨b, off + i * 3, none⟩) h2, hb.cell (p := ⟨b, off + i * 3 + 1, none⟩) h2, hb.cell (p := ⟨b, off + i * 3 + 2, none⟩) h2]; exact h5

/-- A loop's relation at the end of a round: the counter, and a world that is more than the first. -/
theorem mk_round {X w' : World} {k M g : Nat} {v : Value} (hv : v = .int .i64 k) (hb : Below X.heap.size X w') (hm : g + k = M) : ∃ (k n : Nat) (es : Array Obj), v = .int .i64 k ∧ w' = more X n es ∧ g + k = M := by
  obtain ⟨n, es, e⟩ := below_more hb
  exact ⟨k, n, es, hv, e, hm⟩

def SomeInt (w : World) (e : Ending) (w' : World) : Prop := ∃ n : Int, e = .returned (.int .i64 n) ∧ w = w'
def SomeBool (w : World) (e : Ending) (w' : World) : Prop := ∃ b : Bool, e = .returned (.bool b) ∧ Below w.heap.size w w'
end Go.Proofs.Ytogooibfphilaaa
