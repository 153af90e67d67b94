/- A tree that is being changed, in memory; laidNode; a parent's lists with one more. -/
import Derived.Test.YtaophiknldkfdaaGreatDoorTreeT
import Derived.Test.YtaophiknldkfdaaGreatDoorTreeS2
import Derived.Test.YtaophiknldkfdaaGreatDoorTreeN
namespace Go.Proofs.YtaophiknldkfdaaGreatDoor
open Go.RowKit

def TreeS {α : Type} (K : Ks α) (B tb : Nat) (w : World) (S : St α) : Prop :=
  ∃ (P : List (Nv α)) (v fv0 fv : Value), ndsOf P = S.nodes ∧ OwnT K B w v fv0 P S.free ∧ FreeV B fv0 fv S.free S.adv ∧ Blc w tb 25 #[v, .int .i64 S.root, fv]
def LaidPost {α : Type} (K : Ks α) (B tb : Nat) (w : World) (fv0 : Value) (S' : St α) (m : Nat) (e : Ending) (w' : World) : Prop :=
  e = .returned (.int .i64 m) ∧ ∃ (P : List (Nv α)) (v fv : Value), ndsOf P = S'.nodes ∧ OwnT K B w' v fv0 P S'.free ∧ FreeV B fv0 fv S'.free S'.adv ∧ Blc w' tb 25 #[v, .int .i64 S'.root, fv] ∧ StepT B tb w w'
theorem laid_all {α : Type} (K : Ks α) (B : Nat) (w : World) (tb : Nat) (v fv0 fv : Value) (r : Nat) (P : List (Nv α)) (F : List Int) (d : Bool) (y : Nv α) (S' : St α) (m : Nat) (h : OwnT K B w v fv0 P F) (hfv : FreeV B fv0 fv F d) (hB : B ≤ w.heap.size) (ht : Blc w tb 25 #[v, .int .i64 r, fv]) (hy : OwnNd K B w y) (ha : ∀ i, ApartN fv0 P i y) (hl : laidP ⟨ndsOf P, r, F, d⟩ y.n = some (S', m)) :
    Calls Tryz.prog 51 #[.pointer (some ⟨tb, 0, none⟩), .agg #[y.kv, y.rv, y.cv, .bool y.n.leaf]] w (LaidPost K B tb w fv0 S' m) := by
  unfold laidP at hl
  split at hl
  · rename_i hlt
    rw [nds_len] at hlt
    dsimp only at hl hlt
    split at hl
    · cases hl
    · simp only [Option.some.injEq, Prod.mk.injEq] at hl
      obtain ⟨rfl, rfl⟩ := hl
      obtain rfl := hfv.same rfl
      refine (laid_any K B w tb v fv r P y h hB ht hy (ha _) hlt.1).mono ?_
      rintro e w' ⟨v', rfl, h1, h2, h3⟩
      exact ⟨by rw [nds_len], P ++ [y], v', fv, by simp [ndsOf], h1, hfv, h2, h3⟩
    · rename_i f F' 
      split at hl
      · rename_i h0
        rw [nds_len] at h0
        simp only [Option.some.injEq, Prod.mk.injEq] at hl
        obtain ⟨rfl, rfl⟩ := hl
        obtain rfl := hfv.same rfl
        obtain ⟨i, rfl⟩ : ∃ i : Nat, f = i := ⟨f.toNat, by omega⟩
        have hi : i < P.length := by omega
        refine (laid_free K B w tb v fv r P F' i P[i] y h ht hy (List.getElem?_eq_getElem hi) (ha _) (by simp at hlt; omega)).mono ?_
        rintro e w' ⟨fv', rfl, h1, h2, h3, h4⟩
        exact ⟨rfl, P.set i y, v, fv', by simp [ndsOf, List.map_set], h1, h2, h3, h4⟩
      · cases hl
  · cases hl
theorem ApartN.set {α : Type} {fv : Value} {P : List (Nv α)} {x lo hi : Nv α} {j : Nat} (hx : P[j]? = some x) (h : ∀ i, ApartN fv P i hi) (h2 : Apart2 lo hi) (i : Nat) : ApartN fv (P.set j lo) i hi := by
  refine ⟨?_, ?_, ?_, ?_, ?_, (h i).fr, (h i).fc⟩
  · intro a z hz ha
    rcases at_set hx hz with ⟨rfl, rfl⟩ | ⟨-, hz⟩
    · exact h2.ks.symm
    · exact (h i).ks a z hz ha
  · intro a z hz ha
    rcases at_set hx hz with ⟨rfl, rfl⟩ | ⟨-, hz⟩
    · exact h2.rs.symm
    · exact (h i).rs a z hz ha
  · intro a z hz ha
    rcases at_set hx hz with ⟨rfl, rfl⟩ | ⟨-, hz⟩
    · exact h2.cs.symm
    · exact (h i).cs a z hz ha
  · intro a z hz ha
    rcases at_set hx hz with ⟨rfl, rfl⟩ | ⟨-, hz⟩
    · exact h2.cr
    · exact (h i).rc a z hz ha
  · intro a z hz ha
    rcases at_set hx hz with ⟨rfl, rfl⟩ | ⟨-, hz⟩
    · exact h2.rc
    · exact (h i).cr a z hz ha

theorem ins_keys {α : Type} {K : Ks α} {B : Nat} {W w2 : World} {nb n cap kc : Nat} {kp : Option Addr} {fv u : Value} {P : List (Nv α)} {F : List Int} {i m : Nat} {x : Nv α} {k : α} (h : OwnT K B W (.slice (some ⟨nb, 0, none⟩) n cap) fv P F) (hn : P.length = n) (hx : P[i]? = some x) (hB : B ≤ W.heap.size) (hm : m ≤ x.n.keys.length) (hl : x.n.keys.length + 1 ≤ 1000) (hkv : x.kv = .slice kp x.n.keys.length kc)
    (hp : InsPost B 9 (W.alloc (Obj.cells #[Value.string (K.s k)] 9)) (.slice kp x.n.keys.length kc) ((x.n.keys.map K.s).map Value.string) m (.string (K.s k)) w2 u) :
    (∃ up uc, u = .slice up (x.n.keys.length + 1) uc) ∧ Step B W (w2.setCell ⟨nb, i * 4, none⟩ u) ∧ OwnT K B (w2.setCell ⟨nb, i * 4, none⟩ u) (.slice (some ⟨nb, 0, none⟩) n cap) fv (P.set i ⟨u, x.rv, x.cv, ⟨insAt x.n.keys m k, x.n.rows, x.n.kids, x.n.leaf⟩⟩) F ∧
      w2.cell? ⟨nb, i * 4, none⟩ = some (.slice kp x.n.keys.length kc) ∧ w2.frozen? ⟨nb, i * 4, none⟩ = false ∧ Lt nb w2.heap.size := by
  subst hn
  obtain ⟨h1, h2, h3⟩ := hp
  have hxo := h.ns.each x (List.mem_of_getElem? hx)
  have hgr : W.grownBy w2 x.kv.ownBlock := gr_trans (b := W.alloc (Obj.cells #[Value.string (K.s k)] 9)) ⟨rfl, rfl, rfl, by simp, fun k hk _ => Below.heap_alloc W _ k hk⟩ (by rw [hkv]; exact h2)
  have hnode := World.ownsRow.kept h.ns.row hgr (own_apart h.ns.row hxo.1 (by decide))
  have hcl := World.ownsRow.cells hnode (g := nb) rfl
  obtain ⟨a1, -, -, -⟩ := nodeCells_at P i x hx
  have b1 := hcl _ _ a1
  rw [cell_add, Nat.zero_add, hkv] at b1
  have hblk : ∀ g, x.kv.ownBlock = some g → B ≤ g := fun g hg => (World.ownsRow.lt hxo.1 g hg).1
  have hnb : B ≤ nb := (World.ownsRow.lt h.ns.row nb rfl).1
  refine ⟨?_, ⟨?_, ?_, (oth_grown hxo.1 hgr).trans (KeepsOthers.setCell _ _ _)⟩, ?_, b1, World.ownsRow.frozenAt hnode _, (World.ownsRow.lt hnode nb rfl).2⟩
  · rcases h1.2 with ⟨-, h0⟩ | ⟨g, c, cur, e, -⟩
    · omega
    · exact ⟨_, _, by rw [e, List.length_map, List.length_map]⟩
  · exact (Below.grown (Below.refl B W) hgr hB hblk).setCell hnb _
  · intro g T cs hb hT1 hT2 hT3
    exact (Blc.grown hb hgr (not_own hxo.1 hb hT2)).far (a := ⟨nb, i * 4, none⟩) (fun e => not_own h.ns.row hb hT1 (by rw [e]; rfl)) _
  · refine OwnT.keys h hx hgr ?_ ?_ (by simp [insAt]; omega)
    · have h4 := h1
      rw [← List.map_take, ← List.map_take, ← List.map_drop, ← List.map_drop] at h4
      unfold OwnS
      have e1 : ((insAt x.n.keys m k).map K.s).length = ((x.n.keys.map K.s).map Value.string).length + 1 := by simp [insAt]; omega
      rw [e1]
      simpa [insAt] using h4
    · rcases h3 with h3 | ⟨g, h3, hg⟩
      · exact .inl (by rw [h3, hkv])
      · exact .inr ⟨g, h3, by simp at hg; omega⟩
theorem ins_kids {α : Type} {K : Ks α} {B : Nat} {W w2 : World} {nb n cap rc : Nat} {rp : Option Addr} {fv u : Value} {P : List (Nv α)} {F : List Int} {i m : Nat} {x : Nv α} {row : Int} (h : OwnT K B W (.slice (some ⟨nb, 0, none⟩) n cap) fv P F) (hn : P.length = n) (hx : P[i]? = some x) (hB : B ≤ W.heap.size) (hm : m ≤ x.n.kids.length) (hl : x.n.kids.length + 1 ≤ 1000) (hrv : x.cv = .slice rp x.n.kids.length rc)
    (hp : InsPost B 3 (W.alloc (Obj.cells #[Value.int .i64 row] 3)) (.slice rp x.n.kids.length rc) (x.n.kids.map (Value.int .i64)) m (.int .i64 row) w2 u) :
    (∃ up uc, u = .slice up (x.n.kids.length + 1) uc) ∧ Step B W (w2.setCell ⟨nb, i * 4 + 2, none⟩ u) ∧ OwnT K B (w2.setCell ⟨nb, i * 4 + 2, none⟩ u) (.slice (some ⟨nb, 0, none⟩) n cap) fv (P.set i ⟨x.kv, x.rv, u, ⟨x.n.keys, x.n.rows, insAt x.n.kids m row, x.n.leaf⟩⟩) F ∧
      w2.cell? ⟨nb, i * 4 + 2, none⟩ = some (.slice rp x.n.kids.length rc) ∧ w2.frozen? ⟨nb, i * 4 + 2, none⟩ = false ∧ Lt nb w2.heap.size := by
  subst hn
  obtain ⟨h1, h2, h3⟩ := hp
  have hxo := h.ns.each x (List.mem_of_getElem? hx)
  have hgr : W.grownBy w2 x.cv.ownBlock := gr_trans (b := W.alloc (Obj.cells #[Value.int .i64 row] 3)) ⟨rfl, rfl, rfl, by simp, fun k hk _ => Below.heap_alloc W _ k hk⟩ (by rw [hrv]; exact h2)
  have hnode := World.ownsRow.kept h.ns.row hgr (own_apart h.ns.row hxo.2.2.1 (by decide))
  have hcl := World.ownsRow.cells hnode (g := nb) rfl
  obtain ⟨-, -, a1, -⟩ := nodeCells_at P i x hx
  have b1 := hcl _ _ a1
  rw [cell_add, Nat.zero_add, hrv] at b1
  have hblk : ∀ g, x.cv.ownBlock = some g → B ≤ g := fun g hg => (World.ownsRow.lt hxo.2.2.1 g hg).1
  have hnb : B ≤ nb := (World.ownsRow.lt h.ns.row nb rfl).1
  refine ⟨?_, ⟨?_, ?_, (oth_grown hxo.2.2.1 hgr).trans (KeepsOthers.setCell _ _ _)⟩, ?_, b1, World.ownsRow.frozenAt hnode _, (World.ownsRow.lt hnode nb rfl).2⟩
  · rcases h1.2 with ⟨-, h0⟩ | ⟨g, c, cur, e, -⟩
    · omega
    · exact ⟨_, _, by rw [e, List.length_map]⟩
  · exact (Below.grown (Below.refl B W) hgr hB hblk).setCell hnb _
  · intro g T cs hb hT1 hT2 hT3
    exact (Blc.grown hb hgr (not_own hxo.2.2.1 hb hT3)).far (a := ⟨nb, i * 4 + 2, none⟩) (fun e => not_own h.ns.row hb hT1 (by rw [e]; rfl)) _
  · refine OwnT.kids h hx hgr ?_ ?_ (by simp [insAt]; omega)
    · have h4 := h1
      rw [← List.map_take, ← List.map_drop] at h4
      unfold OwnI
      have e1 : (insAt x.n.kids m row).length = (x.n.kids.map (Value.int .i64)).length + 1 := by simp [insAt]; omega
      rw [e1]
      simpa [insAt] using h4
    · rcases h3 with h3 | ⟨g, h3, hg⟩
      · exact .inl (by rw [h3, hrv])
      · exact .inr ⟨g, h3, by simp at hg; omega⟩
end Go.Proofs.YtaophiknldkfdaaGreatDoor
/- Contracts of package tree: split. -/
namespace Go.Proofs.YtaophiknldkfdaaGreatDoor
open Go.RowKit

theorem halves_all {α : Type} (K : Ks α) (B : Nat) (w : World) (x : Nv α) (a : Nd α) (b : α) (c : Nd α) (h : NodeIn K B w x) (hp : halvesP x.n = some (a, b, c)) :
    Calls Tryz.prog 71 #[.agg #[x.kv, x.rv, x.cv, .bool x.n.leaf]] w (HalfPost K w a b c) := by
  obtain ⟨kv, rv, cv, n⟩ := x
  obtain ⟨ks, rs, cs, lf⟩ := n
  unfold halvesP at hp
  dsimp only at hp h ⊢
  split at hp
  · cases hp
  · rename_i b' hb
    split at hp
    · rename_i hl
      cases lf with
      | true =>
        dsimp only at hp
        split at hp
        · rename_i h2
          simp only [Option.some.injEq, Prod.mk.injEq] at hp
          obtain ⟨rfl, rfl, rfl⟩ := hp
          exact halves_leaf K B w kv rv cv ks rs _ h.1 h.2.1 h2 hb hl
        · cases hp
      | false =>
        dsimp only at hp
        split at hp
        · rename_i h2
          simp only [Option.some.injEq, Prod.mk.injEq] at hp
          obtain ⟨rfl, rfl, rfl⟩ := hp
          exact halves_inner K B w kv rv cv ks cs _ h.1 h.2.2 h2.1 h2.2 hb hl
        · cases hp
    · cases hp
theorem nds_some {α : Type} {P : List (Nv α)} {l : List (Nd α)} {i : Nat} {n : Nd α} (h : ndsOf P = l) (hn : l[i]? = some n) : ∃ x, P[i]? = some x ∧ x.n = n := by
  rw [← h] at hn
  unfold ndsOf at hn
  rw [List.getElem?_map] at hn
  cases hx : P[i]? with
  | none => rw [hx] at hn; cases hn
  | some x => rw [hx] at hn; exact ⟨x, rfl, Option.some.inj hn⟩
theorem kid_parts {α : Type} {l : List (Nd α)} {i k j : Nat} (h : kidP l i k = some j) : ∃ x, l[i]? = some x ∧ x.kids[k]? = some (j : Int) ∧ j < l.length := by
  unfold kidP at h
  split at h
  · cases h
  · rename_i x hx
    split at h
    · cases h
    · rename_i c hc
      split at h
      · rename_i h0
        obtain rfl := Option.some.inj h
        exact ⟨x, hx, by rw [hc]; congr 1; omega, by omega⟩
      · cases h
theorem split_parts {α : Type} {S S' : St α} {i k : Nat} (h : splitP S i k = some S') : ∃ x j y lo b hi S2 m z, S.nodes[i]? = some x ∧ x.kids[k]? = some ((j : Nat) : Int) ∧ S.nodes[j]? = some y ∧ halvesP y = some (lo, b, hi) ∧ laidP ⟨S.nodes.set j lo, S.root, S.free, S.adv⟩ hi = some (S2, m) ∧ S2.nodes[i]? = some z ∧ k ≤ z.keys.length ∧ k + 1 ≤ z.kids.length ∧ z.keys.length < 999 ∧ z.kids.length < 999 ∧ S' = ⟨S2.nodes.set i ⟨insAt z.keys k b, z.rows, insAt z.kids (k + 1) (m : Int), z.leaf⟩, S2.root, S2.free, S2.adv⟩ := by
  unfold splitP at h
  split at h
  · cases h
  · rename_i j hj
    obtain ⟨x, hx, hk, hjl⟩ := kid_parts hj
    split at h
    · cases h
    · rename_i y hy
      split at h
      · cases h
      · rename_i lo b hi hh
        split at h
        · cases h
        · rename_i S2 m hl
          unfold parentP at h
          split at h
          · cases h
          · rename_i z hz
            split at h
            · rename_i hg
              exact ⟨x, j, y, lo, b, hi, S2, m, z, hx, hk, hy, hh, hl, hz, hg.1, hg.2.1, hg.2.2.1, hg.2.2.2, (Option.some.inj h).symm⟩
            · cases h
/-- What holds behind a store of a whole node. -/
theorem node_facts {α : Type} {K : Ks α} {B tb : Nat} {w : World} {nb n nc : Nat} {fv : Value} {P : List (Nv α)} {F : List Int} {i : Nat} {x y : Nv α} (h : OwnT K B w (.slice (some ⟨nb, 0, none⟩) n nc) fv P F) (hn : P.length = n) (hy : OwnNd K B w y) (hx : P[i]? = some x) (ha : ApartN fv P i y) (W : World)
    (hW : W = (((w.setCell ⟨nb, i * 4, none⟩ y.kv).setCell ⟨nb, i * 4 + 1, none⟩ y.rv).setCell ⟨nb, i * 4 + 2, none⟩ y.cv).setCell ⟨nb, i * 4 + 3, none⟩ (.bool y.n.leaf)) :
    OwnT K B W (.slice (some ⟨nb, 0, none⟩) n nc) fv (P.set i y) F ∧ StepT B tb w W ∧ (∀ z, OwnNd K B w z → OwnNd K B W z) ∧ (∀ (b : Nat) (T : TypeId) (cs : Array Value), Blc w b T cs → b ≠ nb → Blc W b T cs) := by
  subst hn
  have hnb : B ≤ nb := (World.ownsRow.lt h.ns.row nb rfl).1
  obtain ⟨cur, c1⟩ := own_cur h.ns.row
  have c2 := c1.set (i * 4) y.kv
  have c3 := c2.set (i * 4 + 1) y.rv
  have c4 := c3.set (i * 4 + 2) y.cv
  have r1 := OwnT.node h hx hy ha
  have r3 := stepT_node (stepT_node (stepT_node (stepT_node (StepT.refl B tb w) hnb c1 (i * 4) y.kv) hnb c2 (i * 4 + 1) y.rv) hnb c3 (i * 4 + 2) y.cv) hnb c4 (i * 4 + 3) (.bool y.n.leaf)
  rw [hW]
  exact ⟨r1, r3, fun z hz => (((hz.set c1 _ _).set c2 _ _).set c3 _ _).set c4 _ _, fun b T cs hb hne => (((hb.far (a := ⟨nb, i * 4, none⟩) hne _).far (a := ⟨nb, i * 4 + 1, none⟩) hne _).far (a := ⟨nb, i * 4 + 2, none⟩) hne _).far (a := ⟨nb, i * 4 + 3, none⟩) hne _⟩
def InsKPost {α : Type} (K : Ks α) (B : Nat) (W : World) (nb i L kc m : Nat) (kp : Option Addr) (v fv : Value) (P : List (Nv α)) (F : List Int) (x : Nv α) (k : α) (e : Ending) (w' : World) : Prop :=
  ∃ up uc, e = .returned (.slice up (L + 1) uc) ∧ w'.cell? ⟨nb, i * 4, none⟩ = some (.slice kp L kc) ∧ w'.frozen? ⟨nb, i * 4, none⟩ = false ∧ Lt nb w'.heap.size ∧ Hid (OwnT K B (w'.setCell ⟨nb, i * 4, none⟩ (.slice up (L + 1) uc)) v fv (P.set i ⟨.slice up (L + 1) uc, x.rv, x.cv, ⟨insAt x.n.keys m k, x.n.rows, x.n.kids, x.n.leaf⟩⟩) F) ∧ Hid (Step B W (w'.setCell ⟨nb, i * 4, none⟩ (.slice up (L + 1) uc)))
theorem insK_calls {α : Type} (K : Ks α) (B : Nat) (W : World) (nb i n cap kc m L : Nat) (kp : Option Addr) (fv : Value) (P : List (Nv α)) (F : List Int) (x : Nv α) (k : α) (h : OwnT K B W (.slice (some ⟨nb, 0, none⟩) n cap) fv P F) (hn : P.length = n) (hx : P[i]? = some x) (hB : B ≤ W.heap.size) (hm : m ≤ L) (hl : L + 1 ≤ 1000) (hL : x.n.keys.length = L) (hkv : x.kv = .slice kp L kc) :
    Calls Tryz.prog 46 #[.slice kp L kc, .int .i64 m, .slice (some ⟨W.heap.size, 0, none⟩) 1 1] (W.alloc (Obj.cells #[Value.string (K.s k)] 9)) (InsKPost K B W nb i L kc m kp (.slice (some ⟨nb, 0, none⟩) n cap) fv P F x k) := by
  subst hL
  have hxo := h.ns.each x (List.mem_of_getElem? hx)
  have hrow : W.ownsRow B 9 1 x.kv (x.n.keys.map K.s).length ((x.n.keys.map K.s).map Value.string) := hxo.1
  rw [hkv] at hrow
  have hone : ∀ u ∈ (x.n.keys.map K.s).map Value.string, u.oneCell' = true := by
    intro u hu; obtain ⟨a, -, rfl⟩ := List.mem_map.1 hu; rfl
  have hne : (Value.slice kp x.n.keys.length kc).ownBlock ≠ some W.heap.size := fun e => by
    have := (World.ownsRow.lt hrow W.heap.size e).2
    omega
  refine (insS_own B (W.alloc (Obj.cells #[Value.string (K.s k)] 9)) (.slice kp x.n.keys.length kc) ((x.n.keys.map K.s).map Value.string) m W.heap.size 1 (.string (K.s k)) 9 (World.ownsRow.alloc (by simpa using hrow) _) (by simp; omega) (by simp; omega) (by simp; omega) hone rfl (Blc.new W _ _) hne).mono ?_
  rintro e w1 ⟨u, rfl, hp⟩
  obtain ⟨⟨up, uc, rfl⟩, h2, h3, h4, h5, h6⟩ := ins_keys h hn hx hB hm hl hkv hp
  exact ⟨up, uc, rfl, h4, h5, h6, Lib.hid h3, Lib.hid h2⟩
def InsCPost {α : Type} (K : Ks α) (B : Nat) (W : World) (nb i L kc m : Nat) (kp : Option Addr) (v fv : Value) (P : List (Nv α)) (F : List Int) (x : Nv α) (k : Int) (e : Ending) (w' : World) : Prop :=
  ∃ up uc, e = .returned (.slice up (L + 1) uc) ∧ w'.cell? ⟨nb, i * 4 + 2, none⟩ = some (.slice kp L kc) ∧ w'.frozen? ⟨nb, i * 4 + 2, none⟩ = false ∧ Lt nb w'.heap.size ∧ Hid (OwnT K B (w'.setCell ⟨nb, i * 4 + 2, none⟩ (.slice up (L + 1) uc)) v fv (P.set i ⟨x.kv, x.rv, .slice up (L + 1) uc, ⟨x.n.keys, x.n.rows, insAt x.n.kids m k, x.n.leaf⟩⟩) F) ∧ Hid (Step B W (w'.setCell ⟨nb, i * 4 + 2, none⟩ (.slice up (L + 1) uc)))
theorem insC_calls {α : Type} (K : Ks α) (B : Nat) (W : World) (nb i n cap kc m L : Nat) (kp : Option Addr) (fv : Value) (P : List (Nv α)) (F : List Int) (x : Nv α) (k : Int) (h : OwnT K B W (.slice (some ⟨nb, 0, none⟩) n cap) fv P F) (hn : P.length = n) (hx : P[i]? = some x) (hB : B ≤ W.heap.size) (hm : m ≤ L) (hl : L + 1 ≤ 1000) (hL : x.n.kids.length = L) (hkv : x.cv = .slice kp L kc) :
    Calls Tryz.prog 47 #[.slice kp L kc, .int .i64 m, .slice (some ⟨W.heap.size, 0, none⟩) 1 1] (W.alloc (Obj.cells #[Value.int .i64 k] 3)) (InsCPost K B W nb i L kc m kp (.slice (some ⟨nb, 0, none⟩) n cap) fv P F x k) := by
  subst hL
  have hxo := h.ns.each x (List.mem_of_getElem? hx)
  have hrow : W.ownsRow B 3 1 x.cv x.n.kids.length (x.n.kids.map (Value.int .i64)) := hxo.2.2.1
  rw [hkv] at hrow
  have hone : ∀ u ∈ x.n.kids.map (Value.int .i64), u.oneCell' = true := by
    intro u hu; obtain ⟨a, -, rfl⟩ := List.mem_map.1 hu; rfl
  have hne : (Value.slice kp x.n.kids.length kc).ownBlock ≠ some W.heap.size := fun e => by
    have := (World.ownsRow.lt hrow W.heap.size e).2
    omega
  refine (insI_own B (W.alloc (Obj.cells #[Value.int .i64 k] 3)) (.slice kp x.n.kids.length kc) (x.n.kids.map (Value.int .i64)) m W.heap.size 1 (.int .i64 k) 3 (World.ownsRow.alloc (by simpa using hrow) _) (by simp; omega) (by simp; omega) (by simp; omega) hone rfl (Blc.new W _ _) hne).mono ?_
  rintro e w1 ⟨u, rfl, hp⟩
  obtain ⟨⟨up, uc, rfl⟩, h2, h3, h4, h5, h6⟩ := ins_kids h hn hx hB hm hl hkv hp
  exact ⟨up, uc, rfl, h4, h5, h6, Lib.hid h3, Lib.hid h2⟩
theorem step_of {B : Nat} {w w' : World} (hb : Below w.heap.size w w') (hB : B ≤ w.heap.size) : Step B w w' := ⟨hb.mono hB, fun _ _ _ h _ _ _ => h.below hb, oth_below hb⟩
theorem Step.blc {B : Nat} {w w' : World} (h : Step B w w') {b : Nat} {T : TypeId} {cs : Array Value} (hb : Blc w b T cs) (h1 : T ≠ 53) (h2 : T ≠ 9) (h3 : T ≠ 3) : Blc w' b T cs := h.2.1 b T cs hb h1 h2 h3
end Go.Proofs.YtaophiknldkfdaaGreatDoor
