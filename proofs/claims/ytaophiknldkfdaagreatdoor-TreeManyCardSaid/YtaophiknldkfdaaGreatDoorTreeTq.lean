/- The page's Tree: its walk's memory, laid. -/
import Derived.Test.YtaophiknldkfdaaGreatDoorTreeNd2
namespace Go.Proofs.YtaophiknldkfdaaGreatDoor
open Go.RowKit

/-- The walk's cells ahead of the walk. -/
def wkCells (v u : Value) (r : Int) (sb N : Nat) : Array Value := #[v, .int .i64 r, u, .slice (some ⟨sb, 0, none⟩) N N, .int .i64 0, .slice none 0 0, .bool false]
def TrPost (wr : World) (v u : Value) (r : Int) (N : Nat) : Nat → List Value → World → Prop
  | 0, [], w => w = wr.drew
  | 1, [a], w => a = .int .i64 N ∧ w = wr.drew
  | 2, [_, b], w => b = .slice (some ⟨wr.heap.size, 0, none⟩) N N ∧ Blc w wr.heap.size 4 (boolArr (List.replicate N false)) ∧ Below wr.heap.size wr w
  | 3, [_, b, c], w => b = .slice (some ⟨wr.heap.size, 0, none⟩) N N ∧ ∃ g, c = .pointer (some ⟨g, 0, none⟩) ∧ wr.heap.size < g ∧ Blc w wr.heap.size 4 (boolArr (List.replicate N false)) ∧ Blc w g 75 (wkCells v u r wr.heap.size N) ∧ Below wr.heap.size wr w
  | 4, [_, b, c, d], w => b = .slice (some ⟨wr.heap.size, 0, none⟩) N N ∧ d = c ∧ ∃ g, c = .pointer (some ⟨g, 0, none⟩) ∧ wr.heap.size < g ∧ Blc w wr.heap.size 4 (boolArr (List.replicate N false)) ∧ Blc w g 75 (wkCells v u r wr.heap.size N) ∧ Below wr.heap.size wr w
  | _, _, _ => False
theorem tr_len {wr w9 : World} {v u : Value} {r : Int} {N j : Nat} {vs : List Value} (hp : TrPost wr v u r N j vs w9) : vs.length = j := by
  unfold TrPost at hp
  split at hp <;> first | rfl | cases hp
theorem tr_four {wr w9 : World} {v u : Value} {r : Int} {N : Nat} {vs : List Value} (hp : TrPost wr v u r N 4 vs w9) : ∃ v1 v2 v3 v4, vs = [v1, v2, v3, v4] := by
  have h := tr_len hp
  match vs, h with
  | [a, b, c, d], _ => exact ⟨a, b, c, d, rfl⟩
theorem tr_below {wr w9 : World} {v u : Value} {r : Int} {N j : Nat} {vs : List Value} (hp : TrPost wr v u r N j vs w9) : Below wr.heap.size wr w9 := by
  unfold TrPost at hp
  split at hp
  · subst hp; exact nw_drew (Below.refl _ _)
  · obtain ⟨-, rfl⟩ := hp; exact nw_drew (Below.refl _ _)
  · exact hp.2.2
  · obtain ⟨-, g, -, -, -, -, h⟩ := hp; exact h
  · obtain ⟨-, -, g, -, -, -, -, h⟩ := hp; exact h
  · cases hp
theorem tr_ext {wr w9 : World} {v u : Value} {r : Int} {N j : Nat} {vs : List Value} (hp : TrPost wr v u r N j vs w9) (hj : j < 4) : ∃ x w', TrPost wr v u r N (j + 1) (vs ++ [x]) w' := by
  unfold TrPost at hp
  split at hp
  · subst hp; exact ⟨_, _, rfl, rfl⟩
  · exact ⟨_, wr.alloc (.cells (boolArr (List.replicate N false)) 4), rfl, Blc.new _ _ _, nw_alloc (Below.refl _ _) _⟩
  · obtain ⟨h1, h2, h3⟩ := hp
    refine ⟨.pointer (some ⟨_, 0, none⟩), _, h1, _, rfl, ?_, h2.alloc (.cells (wkCells v u r wr.heap.size N) 75), Blc.new _ _ _, nw_alloc h3 _⟩
    exact h2.lt
  · obtain ⟨h1, g, h2, h3, h4, h5, h6⟩ := hp
    exact ⟨_, _, h1, rfl, g, h2, h3, h4, h5, h6⟩
  · omega
  · cases hp
theorem wkIn_first {α : Type} {wr w9 : World} {v u : Value} {r : Int} {N g : Nat} (h1 : Blc w9 wr.heap.size 4 (boolArr (List.replicate N false))) (h2 : Blc w9 g 75 (wkCells v u r wr.heap.size N)) : WkIn (α := α) wr.heap.size w9 g wr.heap.size N v u r ⟨List.replicate N false, 0, []⟩ :=
  ⟨.slice none 0 0, [], h2, h1, World.ownsRow_nil _ _ _ _⟩
theorem slice_any {w : World} {B : Nat} {e : TypeId} {s : Nat} {v : Value} {n : Nat} {xs : List Value} (h : w.ownsRow B e s v n xs) : ∃ p c, v = .slice p n c := by
  rcases h.2 with ⟨rfl, h0⟩ | ⟨g, c, cur, rfl, -⟩
  · exact ⟨none, 0, by rw [h0]⟩
  · exact ⟨_, _, rfl⟩
end Go.Proofs.YtaophiknldkfdaaGreatDoor
