/- Contracts of the page's walk: leaf. -/
import Derived.Test.YtaophiknldkfdaaGreatDoorTreeRf
import Derived.Test.YtaophiknldkfdaaGreatDoorTreeDg
import Derived.Test.YtaophiknldkfdaaGreatDoorTPar
namespace Go.Proofs.YtaophiknldkfdaaGreatDoor
open Go.RowKit

/-- What a walk has, in memory; its rows by their number alone. -/
def WkIn {α : Type} (G : Nat) (W : World) (wb sb N : Nat) (v u : Value) (r : Int) (s : Wk α) : Prop :=
  ∃ (rv : Value) (ys : List Value), Blc W wb 75 #[v, .int .i64 r, u, .slice (some ⟨sb, 0, none⟩) N N, .int .i64 s.deep, rv, .bool false] ∧ Blc W sb 4 (s.seen.map Value.bool).toArray ∧ W.ownsRow G 119 2 rv s.rows.length ys
/-- A step of a walk. -/
structure WkStep (G wb sb : Nat) (W W' : World) : Prop where
  size : W.heap.size ≤ W'.heap.size
  below : Below G W W'
  blc : ∀ (b : Nat) (T : TypeId) (cs : Array Value), Blc W b T cs → b ≠ wb → b ≠ sb → T ≠ 119 → Blc W' b T cs
theorem WkStep.refl (G wb sb : Nat) (W : World) : WkStep G wb sb W W := ⟨Nat.le_refl _, Below.refl _ _, fun _ _ _ h _ _ _ => h⟩
theorem WkStep.trans {G wb sb : Nat} {A B C : World} (h : WkStep G wb sb A B) (k : WkStep G wb sb B C) : WkStep G wb sb A C :=
  ⟨Nat.le_trans h.size k.size, h.below.trans k.below, fun b T cs hb h1 h2 h3 => k.blc b T cs (h.blc b T cs hb h1 h2 h3) h1 h2 h3⟩
theorem WkStep.of {G wb sb : Nat} {W W' : World} (hG : G ≤ W.heap.size) (h : Below W.heap.size W W') : WkStep G wb sb W W' := ⟨h.size, h.mono hG, fun _ _ _ hb _ _ _ => hb.below h⟩
theorem WkIn.below {α : Type} {G wb sb N : Nat} {W W' : World} {v u : Value} {r : Int} {s : Wk α} (h : WkIn G W wb sb N v u r s) (hb : Below W.heap.size W W') : WkIn G W' wb sb N v u r s := by
  obtain ⟨rv, ys, h1, h2, h3⟩ := h
  exact ⟨rv, ys, h1.below hb, h2.below hb, own_below h3 hb⟩
theorem WkIn.set {α : Type} {G wb sb N : Nat} {W : World} {v u : Value} {r : Int} {s : Wk α} (h : WkIn G W wb sb N v u r s) (hG : G ≤ wb) (hne : wb ≠ sb) (d : Nat) : WkIn G (W.setCell ⟨wb, 4, none⟩ (.int .i64 d)) wb sb N v u r ⟨s.seen, d, s.rows⟩ ∧ WkStep G wb sb W (W.setCell ⟨wb, 4, none⟩ (.int .i64 d)) := by
  obtain ⟨rv, ys, h1, h2, h3⟩ := h
  refine ⟨⟨rv, ys, h1.set 4 _, h2.far (a := ⟨wb, 4, none⟩) (fun e => hne e.symm) _, own_set h3 h1 (by decide) 4 _⟩, ?_⟩
  have hb := (Below.refl G W).setCell (p := ⟨wb, 4, none⟩) hG (.int .i64 d)
  exact ⟨hb.size, hb, fun b T cs hb2 e1 _ _ => hb2.far (a := ⟨wb, 4, none⟩) e1 _⟩
theorem leafW_parts {α : Type} {K : Ks α} {s s' : Wk α} {x : Nd α} {d : Nat} (h : leafW K s x d = some s') : (s.deep = 0 ∨ s.deep = d) ∧ x.kids.length = 0 ∧ x.rows.length = x.keys.length ∧ areKeysB K x.keys = true ∧ areRowsB x.rows = true ∧ s' = ⟨s.seen, d, s.rows ++ x.keys.zip x.rows⟩ := by
  unfold leafW at h
  split at h
  · rename_i hg
    exact ⟨hg.1, hg.2.1, hg.2.2.1, hg.2.2.2.1, hg.2.2.2.2, (Option.some.inj h).symm⟩
  · cases h
theorem keysB_at {α : Type} {K : Ks α} : ∀ {l : List α} {i : Nat} {k : α}, areKeysB K l = true → l[i]? = some k → K.ok k = true
  | [], i, k, _, h => by simp at h
  | a :: r, i, k, h, hk => by
    simp only [areKeysB, Bool.and_eq_true] at h
    cases i with
    | zero => simp at hk; subst hk; exact h.1
    | succ i => exact keysB_at h.2 (by simpa using hk)
theorem rowsB_at : ∀ {l : List Int} {i : Nat} {k : Int}, areRowsB l = true → l[i]? = some k → rowB k = true
  | [], i, k, _, h => by simp at h
  | a :: r, i, k, h, hk => by
    simp only [areRowsB, Bool.and_eq_true] at h
    cases i with
    | zero => simp at hk; subst hk; exact h.1
    | succ i => exact rowsB_at h.2 (by simpa using hk)
theorem info_row : (Tryz.prog.info? 119).map (fun i => (i.zero, i.size, i.bytes)) = some (some (.agg #[.string { data := #[] }, .string { data := #[] }]), 2, 32) := by kernel_rfl
def LfPost (G wb : Nat) (wr : World) (rv : Value) (n : Nat) (kx : ByteArray) : Nat → List Value → World → Prop
  | 0, [], w => w = wr.drew
  | 1, [a], w => (∃ str, a = .string str) ∧ w = wr.drew
  | 2, [a, b], w => ∃ str, a = .string str ∧ b = .slice (some ⟨wr.heap.size, 0, none⟩) 1 1 ∧ w = wr.drew.alloc (.cells #[.string kx, .string str] 119)
  | 3, [a, _, c], w => ∃ str w2 ys, a = .string str ∧ w2 = wr.drew.alloc (.cells #[.string kx, .string str] 119) ∧ w.ownsRow G 119 2 c (n + 1) ys ∧ w2.grownBy w rv.ownBlock
  | 4, [a, _, c, e], w => e = undef ∧ ∃ w3 str w2 ys, a = .string str ∧ w2 = wr.drew.alloc (.cells #[.string kx, .string str] 119) ∧ w3.ownsRow G 119 2 c (n + 1) ys ∧ w2.grownBy w3 rv.ownBlock ∧ w = w3.setCell ⟨wb, 5, none⟩ c
  | _, _, _ => False
theorem lf_cell {G wb n : Nat} {wr w9 : World} {rv v : Value} {kx : ByteArray} {j : Nat} {vs : List Value} {b i : Nat} (hp : LfPost G wb wr rv n kx j vs w9) (hj : j < 4) (hb : b < wr.heap.size) (hne : rv.ownBlock ≠ some b) (hv : wr.cell? ⟨b, i, none⟩ = some v) : w9.cell? ⟨b, i, none⟩ = some v := by
  have h2 : ∀ o : Obj, (wr.drew.alloc o).cell? ⟨b, i, none⟩ = some v := fun o => by
    have hbel : Below wr.heap.size wr (wr.drew.alloc o) := nw_alloc (nw_drew (Below.refl _ _)) o
    exact (hbel.cell (p := ⟨b, i, none⟩) hb).trans hv
  unfold LfPost at hp
  split at hp
  · subst hp; exact hv
  · obtain ⟨-, rfl⟩ := hp; exact hv
  · obtain ⟨str, -, -, rfl⟩ := hp; exact h2 _
  · obtain ⟨str, w2, ys, -, rfl, -, hg⟩ := hp
    rw [World.cell?_of_block (a := ⟨b, i, none⟩) (hg.block b (by simp; omega) (fun e => hne e.symm))]
    exact h2 _
  · omega
  · cases hp
theorem lf_len {G wb n : Nat} {wr w9 : World} {rv : Value} {kx : ByteArray} {j : Nat} {vs : List Value} (hp : LfPost G wb wr rv n kx j vs w9) : vs.length = j := by
  unfold LfPost at hp
  split at hp <;> first | rfl | cases hp
theorem lf_four {G wb n : Nat} {wr w9 : World} {rv : Value} {kx : ByteArray} {vs : List Value} (hp : LfPost G wb wr rv n kx 4 vs w9) : ∃ v1 v2 v3 v4, vs = [v1, v2, v3, v4] := by
  have h := lf_len hp
  match vs, h with
  | [a, b, c, d], _ => exact ⟨a, b, c, d, rfl⟩
theorem lf_ext {G wb n : Nat} {wr w9 : World} {rv : Value} {kx : ByteArray} {j : Nat} {vs ys : List Value} (hG : G ≤ wr.heap.size) (ho : wr.ownsRow G 119 2 rv n ys) (hn : n ≤ 102000) (hp : LfPost G wb wr rv n kx j vs w9) (hj : j < 4) : ∃ v w', LfPost G wb wr rv n kx (j + 1) (vs ++ [v]) w' := by
  obtain ⟨i0, hi, hz0, hz1, hz2⟩ := info_parts info_row
  unfold LfPost at hp
  split at hp
  · exact ⟨.string E0, _, ⟨_, rfl⟩, hp⟩
  · obtain ⟨⟨str, rfl⟩, rfl⟩ := hp
    exact ⟨_, _, str, rfl, rfl, rfl⟩
  · obtain ⟨str, rfl, rfl, rfl⟩ := hp
    obtain ⟨v', w', -, h2, h3, -, -⟩ := run_append_own_at (P := Tryz.prog) (wr.drew.alloc (.cells #[.string kx, .string str] 119)) G 41 41 119 i0 _ 2 32 Tryz.underlying41 hi hz0 hz1 hz2 rfl (by decide) rv n ys (World.ownsRow.alloc (own_below ho (nw_drew (Below.refl _ _))) _) ⟨wr.heap.size, 0, none⟩ 1 1 [.string kx, .string str] rfl (news2 (by simp [go_sem]) (by simp [go_sem])) (by simp [Value.oneCell']) (by unfold maxLen; omega) (by omega) (by simp; omega)
    exact ⟨v', w', str, _, _, rfl, rfl, h2, h3⟩
  · obtain ⟨str, w2, ys', ha, h1, h2, h3⟩ := hp
    exact ⟨undef, _, rfl, _, str, w2, ys', ha, h1, h2, h3, rfl⟩
  · omega
  · cases hp
theorem lf_step {α : Type} {G wb sb N n d : Nat} {wr w3 : World} {v u rv v3 : Value} {ys zs : List Value} {r : Int} {seen : List Bool} {rows' : List (α × Int)} {cs : Array Value} (hG : G ≤ wr.heap.size) (hwb : G ≤ wb) (hne : wb ≠ sb)
    (h1 : Blc wr wb 75 #[v, .int .i64 r, u, .slice (some ⟨sb, 0, none⟩) N N, .int .i64 d, rv, .bool false]) (h2 : Blc wr sb 4 (seen.map Value.bool).toArray) (h3 : wr.ownsRow G 119 2 rv n ys)
    (hown : w3.ownsRow G 119 2 v3 (n + 1) zs) (hgr : (wr.drew.alloc (.cells cs 119)).grownBy w3 rv.ownBlock) (hl : rows'.length = n + 1) :
    WkIn G (w3.setCell ⟨wb, 5, none⟩ v3) wb sb N v u r ⟨seen, d, rows'⟩ ∧ WkStep G wb sb wr (w3.setCell ⟨wb, 5, none⟩ v3) := by
  have hb0 : Below wr.heap.size wr (wr.drew.alloc (.cells cs 119)) := nw_alloc (nw_drew (Below.refl _ _)) _
  have k1 := (h1.below hb0).grown hgr (not_own h3 h1 (by decide))
  have k2 := (h2.below hb0).grown hgr (not_own h3 h2 (by decide))
  have hb1 : Below G wr w3 := (hb0.mono hG).grown hgr (Nat.le_trans hG hb0.size) (fun k e => (World.ownsRow.lt h3 k e).1)
  have hb2 := hb1.setCell (p := ⟨wb, 5, none⟩) hwb v3
  refine ⟨⟨v3, zs, k1.set 5 _, k2.far (a := ⟨wb, 5, none⟩) (fun e => hne e.symm) _, ?_⟩, ⟨hb2.size, hb2, fun b T cs' hb e1 e2 e3 => ?_⟩⟩
  · show World.ownsRow _ _ _ _ _ rows'.length _
    rw [hl]
    exact own_set hown k1 (by decide) 5 _
  · exact ((hb.below hb0).grown hgr (not_own h3 hb e3)).far (a := ⟨wb, 5, none⟩) e1 _
end Go.Proofs.YtaophiknldkfdaaGreatDoor
