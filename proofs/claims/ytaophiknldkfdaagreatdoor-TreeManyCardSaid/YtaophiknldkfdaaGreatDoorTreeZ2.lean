/- Parts of package tree's join. -/
import Derived.Test.YtaophiknldkfdaaGreatDoorTreeX
import Derived.Test.YtaophiknldkfdaaGreatDoorTreeN
import Derived.Test.YtaophiknldkfdaaGreatDoorTreeY
namespace Go.Proofs.YtaophiknldkfdaaGreatDoor
open Go.RowKit

theorem OwnNd.fresh {α : Type} {K : Ks α} {B G : Nat} {w : World} {x : Nv α} (h : OwnNd K G w x) (hB : B ≤ G) : OwnNd K B w x := h.mono hB
theorem OwnT.node_cur {α : Type} {K : Ks α} {B : Nat} {w w1 : World} {nb cap : Nat} {fv : Value} {P : List (Nv α)} {F : List Int} {i : Nat} {x : Nv α} (h : OwnT K B w (.slice (some ⟨nb, 0, none⟩) P.length cap) fv P F) (hx : P[i]? = some x) (hg : w.grownBy w1 x.kv.ownBlock) : w1.ownsRow B 53 4 (.slice (some ⟨nb, 0, none⟩) P.length cap) P.length (nodeCells P) ∧ ∃ cur, Blc w1 nb 53 cur := by
  have hr1 := World.ownsRow.kept h.ns.row hg (own_apart h.ns.row (h.ns.each x (List.mem_of_getElem? hx)).1 (by decide))
  refine ⟨hr1, ?_⟩
  rcases hr1.2 with ⟨e, -⟩ | ⟨g, c, cur, e, -, hg, -⟩
  · cases e
  · obtain ⟨rfl, -⟩ : nb = g ∧ cap = c := by simpa using e
    exact ⟨cur, hg⟩
/-- A node lies anew, behind a step that may have changed its keys' row. -/
theorem OwnT.nodeG {α : Type} {K : Ks α} {B : Nat} {w0 w : World} {nb cap : Nat} {fv : Value} {P : List (Nv α)} {F : List Int} {i : Nat} {x y : Nv α} (h : OwnT K B w0 (.slice (some ⟨nb, 0, none⟩) P.length cap) fv P F) (hx : P[i]? = some x) (hg : w0.grownBy w x.kv.ownBlock) (hy : OwnNd K B w y) (ha : ApartN fv P i y) :
    OwnT K B ((((w.setCell ⟨nb, i * 4, none⟩ y.kv).setCell ⟨nb, i * 4 + 1, none⟩ y.rv).setCell ⟨nb, i * 4 + 2, none⟩ y.cv).setCell ⟨nb, i * 4 + 3, none⟩ (.bool y.n.leaf)) (.slice (some ⟨nb, 0, none⟩) P.length cap) fv (P.set i y) F := by
  obtain ⟨hr1, cur, hcur⟩ := OwnT.node_cur h hx hg
  have hxo := h.ns.each x (List.mem_of_getElem? hx)
  have s1 := hcur.set (i * 4) y.kv
  have s2 := s1.set (i * 4 + 1) y.rv
  have s3 := s2.set (i * 4 + 2) y.cv
  refine ⟨⟨?_, ?_, ?_, ?_, ?_, ?_, ?_⟩, ?_, ?_⟩
  · have t1 := (World.ownsRow.stored hr1 (i * 4) y.kv).1
    have t2 := (World.ownsRow.stored t1 (i * 4 + 1) y.rv).1
    have t3 := (World.ownsRow.stored t2 (i * 4 + 2) y.cv).1
    have t4 := (World.ownsRow.stored t3 (i * 4 + 3) (.bool y.n.leaf)).1
    rw [List.length_set, nodeCells_set P i x y hx]
    exact t4
  · intro z hz
    rcases mem_set hx hz with rfl | ⟨j, hj, hz⟩
    · exact (((hy.set hcur _ _).set s1 _ _).set s2 _ _).set s3 _ _
    · have hzo := h.ns.each z (List.mem_of_getElem? hz)
      have hz1 : OwnNd K B w z := ⟨World.ownsRow.kept hzo.1 hg (h.ns.ks j i z x hz hx hj), World.ownsRow.kept hzo.2.1 hg (own_apart hzo.2.1 hxo.1 (by decide)), World.ownsRow.kept hzo.2.2.1 hg (own_apart hzo.2.2.1 hxo.1 (by decide)), hzo.2.2.2⟩
      exact (((hz1.set hcur _ _).set s1 _ _).set s2 _ _).set s3 _ _
  · rw [List.length_set]; exact h.ns.len
  · intro a b p q hp hq hne
    rcases at_set hx hp with ⟨rfl, rfl⟩ | ⟨h1, hp2⟩ <;> rcases at_set hx hq with ⟨rfl, rfl⟩ | ⟨h2, hq2⟩
    · exact (hne rfl).elim
    · exact ha.ks _ _ hq2 hne.symm
    · exact (ha.ks _ _ hp2 hne).symm
    · exact h.ns.ks _ _ p q hp2 hq2 hne
  · intro a b p q hp hq hne
    rcases at_set hx hp with ⟨rfl, rfl⟩ | ⟨h1, hp2⟩ <;> rcases at_set hx hq with ⟨rfl, rfl⟩ | ⟨h2, hq2⟩
    · exact (hne rfl).elim
    · exact ha.rs _ _ hq2 hne.symm
    · exact (ha.rs _ _ hp2 hne).symm
    · exact h.ns.rs _ _ p q hp2 hq2 hne
  · intro a b p q hp hq hne
    rcases at_set hx hp with ⟨rfl, rfl⟩ | ⟨h1, hp2⟩ <;> rcases at_set hx hq with ⟨rfl, rfl⟩ | ⟨h2, hq2⟩
    · exact (hne rfl).elim
    · exact ha.cs _ _ hq2 hne.symm
    · exact (ha.cs _ _ hp2 hne).symm
    · exact h.ns.cs _ _ p q hp2 hq2 hne
  · intro a b p q hp hq hne
    rcases at_set hx hp with ⟨rfl, rfl⟩ | ⟨h1, hp2⟩ <;> rcases at_set hx hq with ⟨rfl, rfl⟩ | ⟨h2, hq2⟩
    · exact (hne rfl).elim
    · exact ha.rc _ _ hq2 hne.symm
    · exact ha.cr _ _ hp2 hne
    · exact h.ns.rc _ _ p q hp2 hq2 hne
  · exact own_set (own_set (own_set (own_set (World.ownsRow.kept h.fr hg (own_apart h.fr hxo.1 (by decide))) hcur (by decide) _ _) s1 (by decide) _ _) s2 (by decide) _ _) s3 (by decide) _ _
  · intro z hz
    rcases mem_set hx hz with rfl | ⟨j, -, hz⟩
    · exact ⟨ha.fr, ha.fc⟩
    · exact h.fs z (List.mem_of_getElem? hz)
/-- What holds behind joined and the store of its node. -/
theorem join_facts {α : Type} {K : Ks α} {B : Nat} {w0 w : World} {nb n nc : Nat} {fv : Value} {P : List (Nv α)} {F : List Int} {i : Nat} {x y : Nv α} (h : OwnT K B w0 (.slice (some ⟨nb, 0, none⟩) n nc) fv P F) (hn : P.length = n) (hB : B ≤ w0.heap.size) (hx : P[i]? = some x) (hg : w0.grownBy w x.kv.ownBlock) (hy : OwnNd K w0.heap.size w y) (W : World)
    (hW : W = (((w.setCell ⟨nb, i * 4, none⟩ y.kv).setCell ⟨nb, i * 4 + 1, none⟩ y.rv).setCell ⟨nb, i * 4 + 2, none⟩ y.cv).setCell ⟨nb, i * 4 + 3, none⟩ (.bool y.n.leaf)) :
    OwnT K B W (.slice (some ⟨nb, 0, none⟩) n nc) fv (P.set i y) F ∧ Step B w0 W := by
  subst hn
  have hxo := h.ns.each x (List.mem_of_getElem? hx)
  have hnb : B ≤ nb := (World.ownsRow.lt h.ns.row nb rfl).1
  have hblk : ∀ g, x.kv.ownBlock = some g → B ≤ g := fun g hg => (World.ownsRow.lt hxo.1 g hg).1
  have r1 := OwnT.nodeG h hx hg (hy.fresh hB) (ApartN.late h (Nat.le_refl _) hy i)
  have b1 : Below B w0 w := Below.grown (Below.refl B w0) hg hB hblk
  rw [hW]
  refine ⟨r1, (((b1.setCell hnb _).setCell hnb _).setCell hnb _).setCell hnb _, fun g T cs hb h1 h2 h3 => ?_, ((((oth_grown hxo.1 hg).trans (KeepsOthers.setCell _ _ _)).trans (KeepsOthers.setCell _ _ _)).trans (KeepsOthers.setCell _ _ _)).trans (KeepsOthers.setCell _ _ _)⟩
  have hne : g ≠ nb := fun e => not_own h.ns.row hb h1 (by rw [e]; rfl)
  have c1 := Blc.grown hb hg (not_own hxo.1 hb h2)
  exact (((c1.far (a := ⟨nb, i * 4, none⟩) hne _).far (a := ⟨nb, i * 4 + 1, none⟩) hne _).far (a := ⟨nb, i * 4 + 2, none⟩) hne _).far (a := ⟨nb, i * 4 + 3, none⟩) hne _
theorem del_kids {α : Type} {K : Ks α} {B : Nat} {W w2 : World} {nb n cap : Nat} {fv u : Value} {P : List (Nv α)} {F : List Int} {i m : Nat} {x : Nv α} (h : OwnT K B W (.slice (some ⟨nb, 0, none⟩) n cap) fv P F) (hn : P.length = n) (hx : P[i]? = some x) (hB : B ≤ W.heap.size) (hm : m < x.n.kids.length)
    (hp : DelPost B 3 W x.cv (x.n.kids.map (Value.int .i64)) m w2 u) :
    (∃ up uc, u = .slice up (x.n.kids.length - 1) uc) ∧ Step B W (w2.setCell ⟨nb, i * 4 + 2, none⟩ u) ∧ OwnT K B (w2.setCell ⟨nb, i * 4 + 2, none⟩ u) (.slice (some ⟨nb, 0, none⟩) n cap) fv (P.set i ⟨x.kv, x.rv, u, ⟨x.n.keys, x.n.rows, delAt x.n.kids m, x.n.leaf⟩⟩) F ∧
      w2.cell? ⟨nb, i * 4 + 2, none⟩ = some x.cv ∧ w2.frozen? ⟨nb, i * 4 + 2, none⟩ = false ∧ Lt nb w2.heap.size := by
  subst hn
  obtain ⟨h1, hgr, h3, up, uc, hu⟩ := hp
  have hxo := h.ns.each x (List.mem_of_getElem? hx)
  have hnode := World.ownsRow.kept h.ns.row hgr (own_apart h.ns.row hxo.2.2.1 (by decide))
  have hcl := World.ownsRow.cells hnode (g := nb) rfl
  obtain ⟨-, -, a1, -⟩ := nodeCells_at P i x hx
  have b1 := hcl _ _ a1
  rw [cell_add, Nat.zero_add] at b1
  have hblk : ∀ g, x.cv.ownBlock = some g → B ≤ g := fun g hg => (World.ownsRow.lt hxo.2.2.1 g hg).1
  have hnb : B ≤ nb := (World.ownsRow.lt h.ns.row nb rfl).1
  refine ⟨⟨up, uc, by rw [hu]; simp⟩, ⟨(Below.grown (Below.refl B W) hgr hB hblk).setCell hnb _, ?_, (oth_grown hxo.2.2.1 hgr).trans (KeepsOthers.setCell _ _ _)⟩, ?_, b1, World.ownsRow.frozenAt hnode _, (World.ownsRow.lt hnode nb rfl).2⟩
  · intro g T cs hb hT1 hT2 hT3
    exact (Blc.grown hb hgr (not_own hxo.2.2.1 hb hT3)).far (a := ⟨nb, i * 4 + 2, none⟩) (fun e => not_own h.ns.row hb hT1 (by rw [e]; rfl)) _
  · refine OwnT.kids h hx hgr ?_ (.inl h3) (by have := hxo.2.2.2.2.2.2; simp [delAt]; omega)
    have h4 := h1
    rw [← List.map_take, ← List.map_drop] at h4
    unfold OwnI
    have e1 : (delAt x.n.kids m).length = (x.n.kids.map (Value.int .i64)).length - 1 := by simp [delAt]; omega
    rw [e1]
    simpa [delAt] using h4
def DelKPost {α : Type} (K : Ks α) (B : Nat) (W : World) (nb i L kc m : Nat) (kp : Option Addr) (v fv : Value) (P : List (Nv α)) (F : List Int) (x : Nv α) (e : Ending) (w' : World) : Prop :=
  ∃ up uc, e = .returned (.slice up (L - 1) uc) ∧ w'.cell? ⟨nb, i * 4, none⟩ = some (.slice kp L kc) ∧ w'.frozen? ⟨nb, i * 4, none⟩ = false ∧ Lt nb w'.heap.size ∧ Hid (OwnT K B (w'.setCell ⟨nb, i * 4, none⟩ (.slice up (L - 1) uc)) v fv (P.set i ⟨.slice up (L - 1) uc, x.rv, x.cv, ⟨delAt x.n.keys m, x.n.rows, x.n.kids, x.n.leaf⟩⟩) F) ∧ Hid (Step B W (w'.setCell ⟨nb, i * 4, none⟩ (.slice up (L - 1) uc)))
theorem delK_calls {α : Type} (K : Ks α) (B : Nat) (W : World) (nb i n cap kc m L : Nat) (kp : Option Addr) (fv : Value) (P : List (Nv α)) (F : List Int) (x : Nv α) (h : OwnT K B W (.slice (some ⟨nb, 0, none⟩) n cap) fv P F) (hn : P.length = n) (hx : P[i]? = some x) (hB : B ≤ W.heap.size) (hm : m < L) (hL : x.n.keys.length = L) (hkv : x.kv = .slice kp L kc) :
    Calls Tryz.prog 52 #[.slice kp L kc, .int .i64 m, .int .i64 ((m : Int) + 1)] W (DelKPost K B W nb i L kc m kp (.slice (some ⟨nb, 0, none⟩) n cap) fv P F x) := by
  subst hL
  have hxo := h.ns.each x (List.mem_of_getElem? hx)
  rw [← hkv]
  refine (delS_own B W x.kv (x.n.keys.map K.s) m hxo.1 (by rw [List.length_map]; exact hm)).mono ?_
  rintro e w1 ⟨u, rfl, hp⟩
  obtain ⟨⟨up, uc, rfl⟩, h2, h3, h4, h5, -, -, h6⟩ := del_keys h hn hx hB hm hp
  exact ⟨up, uc, rfl, by rw [← hkv]; exact h4, h5, h6, Lib.hid h3, Lib.hid h2⟩
def DelCPost {α : Type} (K : Ks α) (B : Nat) (W : World) (nb i L kc m : Nat) (kp : Option Addr) (v fv : Value) (P : List (Nv α)) (F : List Int) (x : Nv α) (e : Ending) (w' : World) : Prop :=
  ∃ up uc, e = .returned (.slice up (L - 1) uc) ∧ w'.cell? ⟨nb, i * 4 + 2, none⟩ = some (.slice kp L kc) ∧ w'.frozen? ⟨nb, i * 4 + 2, none⟩ = false ∧ Lt nb w'.heap.size ∧ Hid (OwnT K B (w'.setCell ⟨nb, i * 4 + 2, none⟩ (.slice up (L - 1) uc)) v fv (P.set i ⟨x.kv, x.rv, .slice up (L - 1) uc, ⟨x.n.keys, x.n.rows, delAt x.n.kids m, x.n.leaf⟩⟩) F) ∧ Hid (Step B W (w'.setCell ⟨nb, i * 4 + 2, none⟩ (.slice up (L - 1) uc)))
theorem delC_calls {α : Type} (K : Ks α) (B : Nat) (W : World) (nb i n cap kc m L : Nat) (kp : Option Addr) (fv : Value) (P : List (Nv α)) (F : List Int) (x : Nv α) (h : OwnT K B W (.slice (some ⟨nb, 0, none⟩) n cap) fv P F) (hn : P.length = n) (hx : P[i]? = some x) (hB : B ≤ W.heap.size) (hm : m + 1 < L) (hL : x.n.kids.length = L) (hkv : x.cv = .slice kp L kc) :
    Calls Tryz.prog 53 #[.slice kp L kc, .int .i64 ((m : Int) + 1), .int .i64 ((m : Int) + 2)] W (DelCPost K B W nb i L kc (m + 1) kp (.slice (some ⟨nb, 0, none⟩) n cap) fv P F x) := by
  subst hL
  have hxo := h.ns.each x (List.mem_of_getElem? hx)
  rw [← hkv]
  refine (delI_own B W x.cv x.n.kids (m + 1) hxo.2.2.1 hm).mono ?_
  rintro e w1 ⟨u, rfl, hp⟩
  obtain ⟨⟨up, uc, rfl⟩, h2, h3, h4, h5, h6⟩ := del_kids h hn hx hB hm hp
  exact ⟨up, uc, rfl, by rw [← hkv]; exact h4, h5, h6, Lib.hid h3, Lib.hid h2⟩
theorem mid_parts {α : Type} {S S1 : St α} {i k c d : Nat} (h : joinMid S i k = some (S1, c, d)) : ∃ x b lo hi, S.nodes[i]? = some x ∧ x.kids[k]? = some (c : Int) ∧ x.kids[k + 1]? = some (d : Int) ∧ x.keys[k]? = some b ∧ S.nodes[c]? = some lo ∧ S.nodes[d]? = some hi ∧ c ≠ i ∧ d ≠ i ∧ c ≠ d ∧ lo.keys.length + hi.keys.length < 999 ∧ lo.rows.length + hi.rows.length < 999 ∧ lo.kids.length + hi.kids.length < 999 ∧
    S1 = ⟨(S.nodes.set c (joinedP lo b hi)).set i ⟨delAt x.keys k, x.rows, delAt x.kids (k + 1), x.leaf⟩, S.root, S.free, S.adv⟩ := by
  unfold joinMid at h
  split at h
  · rename_i x c' d' hx hc hd
    split at h
    · rename_i b lo hi hb hlo hhi
      split at h
      · rename_i hg
        simp only [Option.some.injEq, Prod.mk.injEq] at h
        obtain ⟨rfl, rfl, rfl⟩ := h
        obtain ⟨x1, e1, e2, -⟩ := kid_parts hc
        obtain ⟨x2, f1, f2, -⟩ := kid_parts hd
        rw [hx] at e1 f1
        obtain rfl := Option.some.inj e1
        obtain rfl := Option.some.inj f1
        exact ⟨x, b, lo, hi, hx, e2, f2, hb, hlo, hhi, hg.1, hg.2.1, hg.2.2.1, hg.2.2.2.1, hg.2.2.2.2.1, hg.2.2.2.2.2, rfl⟩
      · cases h
    · cases h
  · cases h
theorem join_parts {α : Type} {S S' : St α} {i k : Nat} (h : joinP S i k = some S') : ∃ S1 c d S2 y, joinMid S i (k - 1) = some (S1, c, d) ∧ freeP S1 d = some S2 ∧ S2.nodes[c]? = some y ∧ (if overN y = true then splitP S2 i (k - 1) else some S2) = some S' := by
  unfold joinP at h
  split at h
  · cases h
  · rename_i S1 c d hm
    split at h
    · cases h
    · rename_i S2 hf
      split at h
      · cases h
      · rename_i y hy
        exact ⟨S1, c, d, S2, y, hm, hf, hy, h⟩
end Go.Proofs.YtaophiknldkfdaaGreatDoor
/- Parts of package tree's join: joined, called within a tree. -/
namespace Go.Proofs.YtaophiknldkfdaaGreatDoor
open Go.RowKit

def JPost2 {α : Type} (K : Ks α) (B : Nat) (W : World) (nb c : Nat) (v fv : Value) (P : List (Nv α)) (F : List Int) (x : Nv α) (n : Nd α) (e : Ending) (w' : World) : Prop :=
  ∃ p1 c1 p2 c2 p3 c3, e = .returned (.agg #[.slice p1 n.keys.length c1, .slice p2 n.rows.length c2, .slice p3 n.kids.length c3, .bool n.leaf]) ∧
    (∀ (g j : Nat) (u : Value), x.kv.ownBlock ≠ some g → g < W.heap.size → W.cell? ⟨g, j, none⟩ = some u → w'.cell? ⟨g, j, none⟩ = some u) ∧ (∀ j, w'.frozen? ⟨nb, j, none⟩ = false) ∧ W.heap.size ≤ w'.heap.size ∧
    Hid (OwnT K B ((((w'.setCell ⟨nb, c * 4, none⟩ (.slice p1 n.keys.length c1)).setCell ⟨nb, c * 4 + 1, none⟩ (.slice p2 n.rows.length c2)).setCell ⟨nb, c * 4 + 2, none⟩ (.slice p3 n.kids.length c3)).setCell ⟨nb, c * 4 + 3, none⟩ (.bool n.leaf)) v fv (P.set c ⟨.slice p1 n.keys.length c1, .slice p2 n.rows.length c2, .slice p3 n.kids.length c3, n⟩) F) ∧
    Hid (Step B W ((((w'.setCell ⟨nb, c * 4, none⟩ (.slice p1 n.keys.length c1)).setCell ⟨nb, c * 4 + 1, none⟩ (.slice p2 n.rows.length c2)).setCell ⟨nb, c * 4 + 2, none⟩ (.slice p3 n.kids.length c3)).setCell ⟨nb, c * 4 + 3, none⟩ (.bool n.leaf)))
theorem cell_of_same {W w' : World} {g j : Nat} (h : w'.heap[g]? = W.heap[g]?) : w'.cell? ⟨g, j, none⟩ = W.cell? ⟨g, j, none⟩ := by
  unfold World.cell?
  simp only [h]
theorem joined_calls {α : Type} (K : Ks α) (B : Nat) (W : World) (nb c d nc n : Nat) (fv : Value) (P : List (Nv α)) (F : List Int) (lo hi : Nv α) (b : α) (h : OwnT K B W (.slice (some ⟨nb, 0, none⟩) n nc) fv P F) (hn : P.length = n) (hB : B ≤ W.heap.size) (hlo : P[c]? = some lo) (hhi : P[d]? = some hi) (hcd : c ≠ d) (hk : lo.n.keys.length + hi.n.keys.length < 999) (hr : lo.n.rows.length + hi.n.rows.length < 999) (hc : lo.n.kids.length + hi.n.kids.length < 999) :
    Calls Tryz.prog 72 #[.agg #[lo.kv, lo.rv, lo.cv, .bool lo.n.leaf], .string (K.s b), .agg #[hi.kv, hi.rv, hi.cv, .bool hi.n.leaf]] W (JPost2 K B W nb c (.slice (some ⟨nb, 0, none⟩) n nc) fv P F lo (joinedP lo.n b hi.n)) := by
  subst hn
  have h1 := h.ns.each lo (List.mem_of_getElem? hlo)
  have h2 := h.ns.each hi (List.mem_of_getElem? hhi)
  obtain ⟨kv, rv, cv, n1⟩ := lo
  obtain ⟨kv2, rv2, cv2, n2⟩ := hi
  refine (joined_any K B W kv rv cv kv2 rv2 cv2 n1 n2 b h1 h2 (h.ns.ks _ _ _ _ hlo hhi hcd) hB hk hr hc).mono ?_
  rintro e w' ⟨⟨yk, yr, yc, yn⟩, rfl, hyn, hy, hg⟩
  dsimp only at hyn
  subst hyn
  obtain ⟨p1, c1, p2, c2, p3, c3, e1, e2, e3⟩ := node_forms hy
  dsimp only at e1 e2 e3
  subst e1 e2 e3
  obtain ⟨r1, r2⟩ := join_facts h rfl hB hlo hg hy _ rfl
  obtain ⟨hr1, -⟩ := OwnT.node_cur h hlo hg
  refine ⟨p1, c1, p2, c2, p3, c3, rfl, fun g j u h1 h2 h3 => ?_, fun j => World.ownsRow.frozenAt hr1 j, hg.size, Lib.hid r1, Lib.hid r2⟩
  rw [cell_of_same (hg.block g h2 (fun e => h1 e.symm))]
  exact h3
end Go.Proofs.YtaophiknldkfdaaGreatDoor
