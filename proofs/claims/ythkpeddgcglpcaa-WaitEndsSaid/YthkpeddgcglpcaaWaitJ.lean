/- Waits made by a law: rows that the call owns. No condition. -/
import Derived.Test.YthkpeddgcglpcaaWaitI
namespace Go.Proofs.Ythkpeddgcglpcaa
open Go.RowKit

/-- A row of waits that the call owns; each one's For too. -/
def OwnW (B : Nat) (w : World) (v : Value) (P : List Wv) : Prop := w.ownsRow B 41 2 v P.length (wvCells P)
def ForsOwn (B : Nat) (w : World) (P : List Wv) : Prop := ∀ x ∈ P, OwnI B w x.v x.f
theorem OwnW.nil (B : Nat) (w : World) : OwnW B w (.slice none 0 0) [] := World.ownsRow_nil _ _ _ _
theorem OwnW.at {B : Nat} {w : World} {v : Value} {P : List Wv} (h : OwnW B w v P) (hf : ForsOwn B w P) (hl : P.length ≤ 1000000) (hx : ∀ x ∈ P, x.f.length ≤ 1000000) : WaitsAt w v (P.map Wv.pl) :=
  ⟨P, rfl, WvAt.own h hl (fun x hm => (hf x hm).at (hx x hm))⟩
theorem ForsOwn.below {B : Nat} {w w' : World} {P : List Wv} (h : ForsOwn B w P) (hb : Below w.heap.size w w') : ForsOwn B w' P := fun x hx => own_below (h x hx) hb
theorem OwnI.grown {B : Nat} {w w1 : World} {u v : Value} {l : List Int} {P : List Wv} (h : OwnI B w u l) (ho : OwnW B w v P) (hg : w.grownBy w1 v.ownBlock) : OwnI B w1 u l :=
  h.kept hg (own_apart h ho (by decide))
theorem OwnI.lit (B : Nat) (w : World) (hB : B ≤ w.heap.size) (x : Int) : OwnI B (w.alloc (Obj.cells #[.int .i64 x] 3)) (.slice (some ⟨w.heap.size, 0, none⟩) 1 1) [x] := by
  have h := World.ownsRow_lit (e := 3) (size := 1) (base := B) w #[.int .i64 x] 1 hB (by unfold maxLen; omega) (by simp)
  exact h
/-- Behind an append of one wait whose For is new. -/
theorem ForsOwn.snoc {B : Nat} {w w1 : World} {v : Value} {P : List Wv} {x : Wv} (hf : ForsOwn B w P) (ho : OwnW B w v P) (hx : OwnI B w x.v x.f) (hg : w.grownBy w1 v.ownBlock) : ForsOwn B w1 (P ++ [x]) := by
  intro y hy
  rcases List.mem_append.1 hy with hy | hy
  · exact (hf y hy).grown ho hg
  · simp at hy; rw [hy]; exact hx.grown ho hg
theorem sorted_id {l : List Int} (h : l.Pairwise (· ≤ ·)) : sorted l = l :=
  List.mergeSort_of_pairwise (h.imp (fun h => by simpa using h))

/- A row of waits: each for the next. -/
def rowL (n : Nat) : List Wt := (List.range n).map fun (i : Nat) => ((i : Int), [((i + 1 : Nat) : Int)])
theorem row_may : ∀ r, r < 5 → mayB (rowL (r + 2)) = true := by decide +kernel
theorem row_circle : ∀ r, r < 5 → ∀ o, o < r + 3 → circleL (rowL (r + 2)) (o : Nat) = [] := by decide +kernel
theorem row_gather : ∀ r, r < 5 → ∀ o, o < r + 3 → gather (followed (rowL (r + 2)) (o : Nat)) [] = (List.range (r + 2 - o)).map fun (i : Nat) => ((o + 1 + i : Nat) : Int) := by decide +kernel
theorem row_up : ∀ r, r < 5 → ∀ o, o < r + 3 → ((List.range (r + 2 - o)).map fun (i : Nat) => ((o + 1 + i : Nat) : Int)).Pairwise (· ≤ ·) := by decide +kernel
theorem row_len : ∀ r, r < 5 → ∀ o, o < r + 3 → (Go.Lib.compact ((List.range (r + 2 - o)).map fun (i : Nat) => ((o + 1 + i : Nat) : Int))).length = r + 2 - o := by decide +kernel
theorem row_reach (r o : Nat) (hr : r < 5) (ho : o < r + 3) : (reachL (rowL (r + 2)) o).length = r + 2 - o := by
  unfold reachL
  rw [row_gather r hr o ho, sorted_id (row_up r hr o ho), row_len r hr o ho]
theorem row_for (n : Nat) : ∀ x ∈ rowL n, 0 < x.2.length ∧ x.2.length ≤ 1000 := by
  intro x hx; obtain ⟨i, -, rfl⟩ := List.mem_map.1 hx; exact ⟨by simp, by simp⟩
theorem row_snoc (n : Nat) : rowL (n + 1) = rowL n ++ [((n : Int), [((n + 1 : Nat) : Int)])] := by
  unfold rowL; rw [List.range_succ, List.map_append]; rfl
end Go.Proofs.Ythkpeddgcglpcaa
