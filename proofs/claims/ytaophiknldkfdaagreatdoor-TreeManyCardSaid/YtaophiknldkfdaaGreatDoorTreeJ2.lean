/- Trees that a call owns, and copied, New. -/
import Derived.Test.YtaophiknldkfdaaGreatDoorTreeI
import Derived.Test.YtaophiknldkfdaaGreatDoorTDel
import Derived.Deep.RegionWith
import Derived.RegionTactic
import Derived.Deep.RegionHeld3
namespace Go.Proofs.YtaophiknldkfdaaGreatDoor
open Go.RowKit

/-- No two lie in one row. -/
def Sep (a b : Value) : Prop := a.ownBlock = none ∨ a.ownBlock ≠ b.ownBlock
theorem Sep.symm {a b : Value} (h : Sep a b) : Sep b a := by
  rcases h with h | h
  · unfold Sep; rw [h]
    cases hb : b.ownBlock with
    | none => exact .inl rfl
    | some g => exact .inr (by simp)
  · exact .inr h.symm
theorem Sep.none (b : Value) : Sep (.slice none 0 0) b := .inl rfl
/-- One made behind the other. -/
theorem sep_late {w w' : World} {B G : Nat} {e e' : TypeId} {s s' : Nat} {v v' : Value} {n n' : Nat} {xs xs' : List Value} (h : w.ownsRow B e s v n xs) (hG : w.heap.size ≤ G) (h' : w'.ownsRow G e' s' v' n' xs') : Sep v v' := by
  cases hv : v.ownBlock with
  | none => exact .inl hv
  | some g =>
    refine .inr fun e => ?_
    have h1 := (World.ownsRow.lt h g hv).2
    have h2 := (World.ownsRow.lt h' g (by rw [← e, hv])).1
    omega
theorem sep_types {w : World} {B B' : Nat} {e e' : TypeId} {s s' : Nat} {v v' : Value} {n n' : Nat} {xs xs' : List Value} (h : w.ownsRow B e s v n xs) (h' : w.ownsRow B' e' s' v' n' xs') (hne : e ≠ e') : Sep v v' := own_apart h h' hne

section
variable {α : Type} (K : Ks α)
def nodeCells : List (Nv α) → List Value
  | [] => []
  | x :: r => x.kv :: x.rv :: x.cv :: .bool x.n.leaf :: nodeCells r
def OwnNd (B : Nat) (w : World) (x : Nv α) : Prop :=
  OwnS B w x.kv (x.n.keys.map K.s) ∧ OwnI B w x.rv x.n.rows ∧ OwnI B w x.cv x.n.kids ∧ Sep x.rv x.cv ∧ x.n.keys.length ≤ 1000 ∧ x.n.rows.length ≤ 1000 ∧ x.n.kids.length ≤ 1000
structure OwnNs (B : Nat) (w : World) (v : Value) (P : List (Nv α)) : Prop where
  row : w.ownsRow B 53 4 v P.length (nodeCells P)
  each : ∀ x ∈ P, OwnNd K B w x
  len : P.length ≤ 1000
  ks : ∀ (i j : Nat) (x y : Nv α), P[i]? = some x → P[j]? = some y → i ≠ j → Sep x.kv y.kv
  rs : ∀ (i j : Nat) (x y : Nv α), P[i]? = some x → P[j]? = some y → i ≠ j → Sep x.rv y.rv
  cs : ∀ (i j : Nat) (x y : Nv α), P[i]? = some x → P[j]? = some y → i ≠ j → Sep x.cv y.cv
  rc : ∀ (i j : Nat) (x y : Nv α), P[i]? = some x → P[j]? = some y → i ≠ j → Sep x.rv y.cv
end
section
variable {α : Type} {K : Ks α}
theorem nodeCells_append (l m : List (Nv α)) : nodeCells (l ++ m) = nodeCells l ++ nodeCells m := by
  induction l with
  | nil => rfl
  | cons x r ih => simp [nodeCells, ih]
theorem nodeCells_at (l : List (Nv α)) (i : Nat) (x : Nv α) (h : l[i]? = some x) : (nodeCells l)[i * 4]? = some x.kv ∧ (nodeCells l)[i * 4 + 1]? = some x.rv ∧ (nodeCells l)[i * 4 + 2]? = some x.cv ∧ (nodeCells l)[i * 4 + 3]? = some (.bool x.n.leaf) := by
  induction l generalizing i with
  | nil => simp at h
  | cons y r ih =>
    cases i with
    | zero => simp at h; subst h; simp [nodeCells]
    | succ i =>
      have := ih i (by simpa using h)
      rw [show (i + 1) * 4 = i * 4 + 1 + 1 + 1 + 1 by omega]
      simpa [nodeCells] using this
theorem OwnNd.inn {B : Nat} {w : World} {x : Nv α} (h : OwnNd K B w x) : NodeIn K B w x := by
  obtain ⟨h1, h2, h3, -, l1, l2, l3⟩ := h
  refine ⟨h1.inn (by rw [List.length_map]; omega) ?_, h2.inn (by omega), h3.inn (by omega)⟩
  intro s hs
  obtain ⟨a, -, rfl⟩ := List.mem_map.1 hs
  exact K.hsz a
theorem OwnNd.below {B : Nat} {w w' : World} {x : Nv α} (h : OwnNd K B w x) (hb : Below w.heap.size w w') : OwnNd K B w' x := ⟨h.1.below hb, h.2.1.below hb, h.2.2.1.below hb, h.2.2.2⟩
theorem OwnNs.below {B : Nat} {w w' : World} {v : Value} {P : List (Nv α)} (h : OwnNs K B w v P) (hb : Below w.heap.size w w') : OwnNs K B w' v P :=
  ⟨own_below h.row hb, fun x hx => (h.each x hx).below hb, h.len, h.ks, h.rs, h.cs, h.rc⟩
theorem OwnNs.nil (B : Nat) (w : World) : OwnNs K B w (.slice none 0 0) [] :=
  ⟨World.ownsRow_nil _ _ _ _, fun _ h => (List.not_mem_nil h).elim, Nat.zero_le _, fun _ _ _ _ h => (by simp at h), fun _ _ _ _ h => (by simp at h), fun _ _ _ _ h => (by simp at h), fun _ _ _ _ h => (by simp at h)⟩
theorem Blc.newAt (w : World) (T : TypeId) (cs : Array Value) {b : Nat} (h : w.heap.size = b) : Blc (w.alloc (.cells cs T)) b T cs := by subst h; exact Blc.new w T cs
theorem cell_add (w : World) (g j : Nat) : w.cell? ((⟨g, 0, none⟩ : Addr).add j) = w.cell? ⟨g, 0 + j, none⟩ := by
  unfold Addr.add
  split
  · rename_i h; subst h; rfl
  · rfl
theorem OwnNs.inn {B : Nat} {w : World} {v : Value} {P : List (Nv α)} (h : OwnNs K B w v P) : NodesIn K B w v P := by
  refine ⟨by have := h.len; omega, ?_, fun x hx => (h.each x hx).inn⟩
  have hr := h.row
  rcases hr.2 with ⟨rfl, h0⟩ | ⟨g, cap, cur, rfl, hb, hg, hc, hm, hs, ht⟩
  · exact ⟨none, 0, by rw [h0], by omega, fun i hi => by omega⟩
  · refine ⟨_, cap, rfl, hc, fun i hi => ⟨g, 0, rfl, hb, (Array.getElem?_eq_some_iff.1 hg).1, ?_⟩⟩
    have hx : P[i]? = some (P.getD i (nil3 α)) := by simp [List.getD, hi]
    obtain ⟨a0, a1, a2, a3⟩ := nodeCells_at P i _ hx
    have hcl := World.ownsRow.cells hr (g := g) rfl
    have b0 := hcl _ _ a0
    have b1 := hcl _ _ a1
    have b2 := hcl _ _ a2
    have b3 := hcl _ _ a3
    rw [cell_add] at b0 b1 b2 b3
    exact ⟨b0, b1, b2, b3⟩
theorem OwnNd.keep {B : Nat} {w w' : World} {x : Nv α} (h : OwnNd K B w x) {row : Option Nat} (hg : w.grownBy w' row) (h1 : x.kv.ownBlock = none ∨ x.kv.ownBlock ≠ row) (h2 : x.rv.ownBlock = none ∨ x.rv.ownBlock ≠ row) (h3 : x.cv.ownBlock = none ∨ x.cv.ownBlock ≠ row) : OwnNd K B w' x :=
  ⟨World.ownsRow.kept h.1 hg h1, World.ownsRow.kept h.2.1 hg h2, World.ownsRow.kept h.2.2.1 hg h3, h.2.2.2⟩
theorem OwnNd.mono {B B' : Nat} {w : World} {x : Nv α} (h : OwnNd K B w x) (hB : B' ≤ B) : OwnNd K B' w x := ⟨World.ownsRow.mono h.1 hB, World.ownsRow.mono h.2.1 hB, World.ownsRow.mono h.2.2.1 hB, h.2.2.2⟩
theorem at_snoc {P : List (Nv α)} {x y : Nv α} {i : Nat} (h : (P ++ [x])[i]? = some y) : P[i]? = some y ∨ (i = P.length ∧ y = x) := by
  by_cases hi : i < P.length
  · rw [List.getElem?_append_left hi] at h; exact .inl h
  · rw [List.getElem?_append_right (by omega)] at h
    have hl := (List.getElem?_eq_some_iff.1 h).1
    simp only [List.length_singleton] at hl
    obtain e : i = P.length := by omega
    subst e
    simp at h
    exact .inr ⟨rfl, h.symm⟩
theorem OwnNs.snoc {B G : Nat} {wr X w1 : World} {v v' : Value} {P : List (Nv α)} {x : Nv α} (h : OwnNs K B wr v P) (hG : wr.heap.size ≤ G) (hBG : B ≤ G) (hx : OwnNd K G X x) (hbel : Below wr.heap.size wr X)
    (hv : w1.ownsRow B 53 4 v' (P.length + 1) (nodeCells P ++ [x.kv, x.rv, x.cv, .bool x.n.leaf])) (hg : X.grownBy w1 v.ownBlock) (hl : P.length < 1000) : OwnNs K B w1 v' (P ++ [x]) := by
  have hvX := own_below h.row hbel
  have hmem : ∀ {i : Nat} {y : Nv α}, P[i]? = some y → OwnNd K B wr y := fun hi => h.each _ (List.mem_of_getElem? hi)
  refine ⟨?_, ?_, by rw [List.length_append]; simp; omega, ?_, ?_, ?_, ?_⟩
  · rw [List.length_append, nodeCells_append]; exact hv
  · intro y hy
    rcases List.mem_append.1 hy with hy | hy
    · have hyX := (h.each y hy).below hbel
      exact hyX.keep hg (own_apart hyX.1 hvX (by decide)) (own_apart hyX.2.1 hvX (by decide)) (own_apart hyX.2.2.1 hvX (by decide))
    · rw [List.mem_singleton] at hy
      subst hy
      exact (hx.mono hBG).keep hg (own_apart hx.1 hvX (by decide)) (own_apart hx.2.1 hvX (by decide)) (own_apart hx.2.2.1 hvX (by decide))
  · intro i j y z hi hj hne
    rcases at_snoc hi with hi2 | ⟨rfl, rfl⟩ <;> rcases at_snoc hj with hj2 | ⟨rfl, rfl⟩
    · exact h.ks i j y z hi2 hj2 hne
    · exact sep_late (hmem hi2).1 hG hx.1
    · exact (sep_late (hmem hj2).1 hG hx.1).symm
    · exact (hne rfl).elim
  · intro i j y z hi hj hne
    rcases at_snoc hi with hi2 | ⟨rfl, rfl⟩ <;> rcases at_snoc hj with hj2 | ⟨rfl, rfl⟩
    · exact h.rs i j y z hi2 hj2 hne
    · exact sep_late (hmem hi2).2.1 hG hx.2.1
    · exact (sep_late (hmem hj2).2.1 hG hx.2.1).symm
    · exact (hne rfl).elim
  · intro i j y z hi hj hne
    rcases at_snoc hi with hi2 | ⟨rfl, rfl⟩ <;> rcases at_snoc hj with hj2 | ⟨rfl, rfl⟩
    · exact h.cs i j y z hi2 hj2 hne
    · exact sep_late (hmem hi2).2.2.1 hG hx.2.2.1
    · exact (sep_late (hmem hj2).2.2.1 hG hx.2.2.1).symm
    · exact (hne rfl).elim
  · intro i j y z hi hj hne
    rcases at_snoc hi with hi2 | ⟨rfl, rfl⟩ <;> rcases at_snoc hj with hj2 | ⟨rfl, rfl⟩
    · exact h.rc i j y z hi2 hj2 hne
    · exact sep_late (hmem hi2).2.1 hG hx.2.2.1
    · exact (sep_late (hmem hj2).2.2.1 hG hx.2.1).symm
    · exact (hne rfl).elim
end
def LensOk {α : Type} (x : Nv α) : Prop := x.n.keys.length ≤ 1000 ∧ x.n.rows.length ≤ 1000 ∧ x.n.kids.length ≤ 1000
theorem own_stays {A F : World} {b c : Nat} {e : TypeId} {s : Nat} {v : Value} {k : Nat} {xs : List Value} (h : A.ownsRow b e s v k xs) (hs : Stays c A F) (hb : c ≤ b) : F.ownsRow c e s v k xs := by
  refine ⟨h.1, ?_⟩
  rcases h.2 with h2 | ⟨g, cap, cur, hv, hg1, hg, r⟩
  · exact .inl h2
  · exact .inr ⟨g, cap, cur, hv, by omega, (hs.2 g (by omega) (Array.getElem?_eq_some_iff.1 hg).1).trans hg, r⟩
theorem st_grow {A B : World} {c : Nat} (h : Stays c A B) (n : Nat) (es : Array Obj) : Stays c A (more B n es) :=
  ⟨by have := h.1; simp; omega, fun k hk hk2 => by rw [more_block _ _ _ _ (by have := h.1; omega)]; exact h.2 k hk hk2⟩
theorem st_both {A B : World} {c : Nat} {es : Array Obj} (h : Stays c A B) (hs : A.heap.size = B.heap.size) (n m : Nat) : Stays c (more A n es) (more B m es) := by
  refine ⟨by simp; omega, fun k hk hk2 => ?_⟩
  by_cases hlt : k < A.heap.size
  · rw [more_block _ _ _ _ hlt, more_block _ _ _ _ (by omega)]; exact h.2 k hk hlt
  · simp only [more]
    rw [Array.getElem?_append_right (by omega), Array.getElem?_append_right (by omega), hs]
theorem st_drew {A B : World} {c : Nat} (h : Stays c A B) : Stays c A.drew B := h
theorem st_base (X : World) (o o' : Obj) : Stays (X.heap.size + 1) (X.alloc o) (X.alloc o') :=
  ⟨by simp, fun k hk hk2 => by simp at hk2; omega⟩
theorem info_node : (Tryz.prog.info? 53).map (fun i => (i.zero, i.size, i.bytes)) = some (some (.agg #[.slice none 0 0, .slice none 0 0, .slice none 0 0, .bool false]), 4, 80) := by kernel_rfl

set_option maxHeartbeats 400000 in
theorem new_any {α : Type} (K : Ks α) (w : World) :
    Calls Tryz.prog 9 #[] w fun e w' => ∃ (nv : Value) (x : Nv α), e = .returned (.agg #[nv, .int .i64 0, .slice none 0 0]) ∧ OwnNs K w.heap.size w' nv [x] ∧ x.n = ⟨[], [], [], true⟩ ∧ Below w.heap.size w w' := by
  go_enter Tryz.func9, Tryz.ntmps9
  go_wp2_with fail
  refine bodyPost_ret (v := .agg #[.slice (some ⟨w.heap.size + 1, 0, none⟩) 1 1, .int .i64 0, .slice none 0 0]) (by simp [results, Tryz.results9, go_sem]) rfl ?_
  refine ⟨_, ⟨.slice none 0 0, .slice none 0 0, .slice none 0 0, ⟨[], [], [], true⟩⟩, rfl, ?_, rfl, by (repeat (first | exact Below.refl _ _ | assumption | refine nw_more ?_ _ _ | refine nw_alloc ?_ _ | refine nw_drew ?_ | refine nw_drewN ?_ _ | refine nw_set ?_ (by first | (simp; done) | (simp; omega) | omega) _))⟩
  refine ⟨?_, ?_, by simp, ?_, ?_, ?_, ?_⟩
  · refine ⟨by simp [nodeCells], .inr ⟨w.heap.size + 1, 1, #[Value.slice none 0 0, Value.slice none 0 0, Value.slice none 0 0, Value.bool true], rfl, by omega, ?_, by simp, by unfold maxLen; omega, rfl, rfl⟩⟩
    have := heap_alloc_new (w.alloc (Obj.cells #[Value.slice (some ⟨w.heap.size + 1, 0, none⟩) 1 1, Value.int IntKind.i64 0, Value.slice none 0 0] 25)) (Obj.cells #[Value.slice none 0 0, Value.slice none 0 0, Value.slice none 0 0, Value.bool true] 53)
    simpa [go_sem] using this
  · intro x hx
    rw [List.mem_singleton] at hx
    subst hx
    exact ⟨OwnS.nil _ _, OwnI.nil _ _, OwnI.nil _ _, Sep.none _, by simp, by simp, by simp⟩
  all_goals
    intro i j x y hi hj hne
    have h1 := (List.getElem?_eq_some_iff.1 hi).1
    have h2 := (List.getElem?_eq_some_iff.1 hj).1
    simp only [List.length_singleton] at h1 h2
    omega

end Go.Proofs.YtaophiknldkfdaaGreatDoor
/- What stays when a block of another type is written. -/
namespace Go.Proofs.YtaophiknldkfdaaGreatDoor
open Go.RowKit

theorem not_own {w : World} {B : Nat} {e : TypeId} {s : Nat} {v : Value} {n : Nat} {xs : List Value} (h : w.ownsRow B e s v n xs) {b : Nat} {T : TypeId} {cs : Array Value} (hb : Blc w b T cs) (hT : T ≠ e) : v.ownBlock ≠ some b := by
  rcases h.2 with ⟨rfl, -⟩ | ⟨g, cap, cur, rfl, -, hg, -⟩
  · simp [Value.ownBlock]
  · intro e
    obtain rfl : g = b := by simpa [Value.ownBlock] using e
    unfold Blc at hb
    rw [hb] at hg
    simp at hg
    exact hT hg.2
theorem grown_set (w : World) (b i : Nat) (u : Value) : w.grownBy (w.setCell ⟨b, i, none⟩ u) (some b) :=
  have hb : Below 0 w (w.setCell ⟨b, i, none⟩ u) := (Below.refl 0 w).setCell (Nat.zero_le _) u
  ⟨hb.os, hb.tape, hb.output, hb.size, fun k _ hne => heap_setCell_other w ⟨b, i, none⟩ k u (fun e => hne (by rw [e]))⟩
theorem own_set {w : World} {B : Nat} {e : TypeId} {s : Nat} {v : Value} {n : Nat} {xs : List Value} (h : w.ownsRow B e s v n xs) {b : Nat} {T : TypeId} {cs : Array Value} (hb : Blc w b T cs) (hT : T ≠ e) (i : Nat) (u : Value) : (w.setCell ⟨b, i, none⟩ u).ownsRow B e s v n xs :=
  World.ownsRow.kept h (grown_set w b i u) (.inr (not_own h hb hT))
theorem OwnNs.mono {α : Type} {K : Ks α} {B B' : Nat} {w : World} {v : Value} {P : List (Nv α)} (h : OwnNs K B w v P) (hB : B' ≤ B) : OwnNs K B' w v P :=
  ⟨World.ownsRow.mono h.row hB, fun x hx => (h.each x hx).mono hB, h.len, h.ks, h.rs, h.cs, h.rc⟩
theorem OwnNs.set {α : Type} {K : Ks α} {B : Nat} {w : World} {v : Value} {P : List (Nv α)} (h : OwnNs K B w v P) {b : Nat} {cs : Array Value} (hb : Blc w b 25 cs) (i : Nat) (u : Value) : OwnNs K B (w.setCell ⟨b, i, none⟩ u) v P :=
  ⟨own_set h.row hb (by decide) i u, fun x hx => ⟨own_set (h.each x hx).1 hb (by decide) i u, own_set (h.each x hx).2.1 hb (by decide) i u, own_set (h.each x hx).2.2.1 hb (by decide) i u, (h.each x hx).2.2.2⟩, h.len, h.ks, h.rs, h.cs, h.rc⟩

end Go.Proofs.YtaophiknldkfdaaGreatDoor
