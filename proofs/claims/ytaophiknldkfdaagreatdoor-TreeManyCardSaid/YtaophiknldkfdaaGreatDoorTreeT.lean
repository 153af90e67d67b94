/- Contracts of package tree: laidNode where a number is free. -/
import Derived.Test.YtaophiknldkfdaaGreatDoorTreeS
import Derived.Test.YtaophiknldkfdaaGreatDoorTreeMi
namespace Go.Proofs.YtaophiknldkfdaaGreatDoor
open Go.RowKit

/-- The free numbers as they stand in the tree: whole, or behind the first. -/
structure FreeV (B : Nat) (fv0 fv : Value) (F : List Int) (d : Bool) : Prop where
  same : d = false → fv = fv0
  adv : d = true → ∀ w, OwnI B w fv0 F → IntsIn B w fv F.tail
  form : ∃ p n c, fv = .slice p n c
theorem IntsIn.none (B : Nat) (w : World) (p : Option Addr) (c : Nat) : IntsIn B w (.slice p 0 c) [] := ⟨by simp, p, c, rfl, Nat.zero_le _, fun i hi => by simp at hi⟩
theorem stepT_set {B tb : Nat} {w w' : World} (h : StepT B tb w w') (i : Nat) (u : Value) : StepT B tb w (w'.setCell ⟨tb, i, none⟩ u) := by
  have hb : Below 0 w' (w'.setCell ⟨tb, i, none⟩ u) := (Below.refl 0 w').setCell (Nat.zero_le _) u
  exact ⟨hb.os.trans h.os, hb.tape.trans h.tape, hb.output.trans h.output, Nat.le_trans h.size hb.size, fun k h1 h2 h3 => by rw [heap_setCell_other w' ⟨tb, i, none⟩ k u h3]; exact h.old k h1 h2 h3, fun g T cs hc h0 h1 h2 h3 => (h.blc g T cs hc h0 h1 h2 h3).far (a := ⟨tb, i, none⟩) h0 _, h.oth.trans (KeepsOthers.setCell _ _ _)⟩
theorem stepT_node {B tb nb : Nat} {w w' : World} (h : StepT B tb w w') (hn : B ≤ nb) {cur : Array Value} (hc : Blc w' nb 53 cur) (i : Nat) (u : Value) : StepT B tb w (w'.setCell ⟨nb, i, none⟩ u) := by
  have hb : Below 0 w' (w'.setCell ⟨nb, i, none⟩ u) := (Below.refl 0 w').setCell (Nat.zero_le _) u
  refine ⟨hb.os.trans h.os, hb.tape.trans h.tape, hb.output.trans h.output, Nat.le_trans h.size hb.size, fun k h1 h2 h3 => ?_, fun g T cs hc2 h0 h1 h2 h3 => ?_, h.oth.trans (KeepsOthers.setCell _ _ _)⟩
  · rw [heap_setCell_other w' ⟨nb, i, none⟩ k u (by dsimp only; omega)]; exact h.old k h1 h2 h3
  · have h9 := h.blc g T cs hc2 h0 h1 h2 h3
    refine h9.far (a := ⟨nb, i, none⟩) (fun e => ?_) _
    dsimp only at e
    subst e
    unfold Blc at hc h9
    rw [hc] at h9
    simp at h9
    exact h1 h9.2.symm
theorem StepT.refl (B tb : Nat) (w : World) : StepT B tb w w := ⟨rfl, rfl, rfl, Nat.le_refl _, fun _ _ _ _ => rfl, fun _ _ _ h _ _ _ _ => h, KeepsOthers.refl _⟩
theorem stepT_alloc {B tb : Nat} {w w' : World} (h : StepT B tb w w') (o : Obj) : StepT B tb w (w'.alloc o) :=
  ⟨h.os, h.tape, h.output, Nat.le_trans h.size (by simp), fun k h1 h2 h3 => by rw [Below.heap_alloc w' o k (Nat.lt_of_lt_of_le h2 h.size)]; exact h.old k h1 h2 h3, fun g T cs hc h0 h1 h2 h3 => (h.blc g T cs hc h0 h1 h2 h3).alloc o, h.oth.trans (KeepsOthers.alloc _ _)⟩
theorem Below.heap_alloc' {w : World} (o : Obj) : Below w.heap.size w (w.alloc o) := nw_alloc (Below.refl _ _) o
theorem OwnT.set {α : Type} {K : Ks α} {B : Nat} {w : World} {v fv : Value} {P : List (Nv α)} {F : List Int} (h : OwnT K B w v fv P F) {b : Nat} {cs : Array Value} (hb : Blc w b 25 cs) (i : Nat) (u : Value) : OwnT K B (w.setCell ⟨b, i, none⟩ u) v fv P F :=
  ⟨h.ns.set hb i u, own_set h.fr hb (by decide) i u, h.fs⟩
theorem OwnNd.setT {α : Type} {K : Ks α} {B : Nat} {w : World} {x : Nv α} (h : OwnNd K B w x) {b : Nat} {cs : Array Value} (hb : Blc w b 25 cs) (i : Nat) (u : Value) : OwnNd K B (w.setCell ⟨b, i, none⟩ u) x :=
  ⟨own_set h.1 hb (by decide) i u, own_set h.2.1 hb (by decide) i u, own_set h.2.2.1 hb (by decide) i u, h.2.2.2⟩
theorem OwnT.below {α : Type} {K : Ks α} {B : Nat} {w w' : World} {v fv : Value} {P : List (Nv α)} {F : List Int} (h : OwnT K B w v fv P F) (hb : Below w.heap.size w w') : OwnT K B w' v fv P F := ⟨h.ns.below hb, h.fr.below hb, h.fs⟩
theorem own_cur {w : World} {B nb n cap : Nat} {e : TypeId} {s : Nat} {xs : List Value} (h : w.ownsRow B e s (.slice (some ⟨nb, 0, none⟩) n cap) n xs) : ∃ cur, Blc w nb e cur := by
  rcases h.2 with ⟨e, -⟩ | ⟨g, c, cur, e, -, hg, -⟩
  · cases e
  · obtain ⟨rfl, -⟩ : nb = g ∧ cap = c := by simpa using e
    exact ⟨cur, hg⟩
theorem own_pos {w : World} {B : Nat} {e : TypeId} {s : Nat} {v : Value} {n : Nat} {xs : List Value} (h : w.ownsRow B e s v n xs) (hn : 0 < n) : ∃ g c, v = .slice (some ⟨g, 0, none⟩) n c ∧ B ≤ g ∧ n ≤ c ∧ c ≤ maxLen ∧ Lt g w.heap.size := by
  rcases h.2 with ⟨-, h0⟩ | ⟨g, c, cur, rfl, hb, hg, hc, hm, -⟩
  · omega
  · exact ⟨g, c, rfl, hb, hc, hm, (Array.getElem?_eq_some_iff.1 hg).1⟩

/-- What holds behind laidNode's two stores. -/
theorem laid_facts {α : Type} {K : Ks α} {B : Nat} {w : World} {tb nb n nc : Nat} {fv : Value} {r : Int} {P : List (Nv α)} {F : List Int} {i : Nat} {x y : Nv α} (h : OwnT K B w (.slice (some ⟨nb, 0, none⟩) n nc) fv P F) (hn : P.length = n) (ht : Blc w tb 25 #[.slice (some ⟨nb, 0, none⟩) n nc, .int .i64 r, fv]) (hy : OwnNd K B w y) (hx : P[i]? = some x) (ha : ApartN fv P i y) (fv' : Value) (W : World)
    (hW : W = ((((w.setCell ⟨tb, 2, none⟩ fv').setCell ⟨nb, i * 4, none⟩ y.kv).setCell ⟨nb, i * 4 + 1, none⟩ y.rv).setCell ⟨nb, i * 4 + 2, none⟩ y.cv).setCell ⟨nb, i * 4 + 3, none⟩ (.bool y.n.leaf)) :
    OwnT K B W (.slice (some ⟨nb, 0, none⟩) n nc) fv (P.set i y) F ∧ Blc W tb 25 #[.slice (some ⟨nb, 0, none⟩) n nc, .int .i64 r, fv'] ∧ StepT B tb w W := by
  subst hn
  have hnb : B ≤ nb := (World.ownsRow.lt h.ns.row nb rfl).1
  obtain ⟨cur, hcur⟩ := own_cur h.ns.row
  have hne : ¬ tb = nb := fun e => not_own h.ns.row ht (by decide) (by rw [e]; rfl)
  have t1 := ht.set 2 fv'
  have o1 := h.set ht 2 fv'
  have d1 := hy.setT ht 2 fv'
  have c1 := hcur.far (a := ⟨tb, 2, none⟩) (fun e => hne e.symm) fv'
  have c2 := c1.set (i * 4) y.kv
  have c3 := c2.set (i * 4 + 1) y.rv
  have c4 := c3.set (i * 4 + 2) y.cv
  have r1 := OwnT.node o1 hx d1 ha
  have r2 := (((t1.far (a := ⟨nb, i * 4, none⟩) hne y.kv).far (a := ⟨nb, i * 4 + 1, none⟩) hne y.rv).far (a := ⟨nb, i * 4 + 2, none⟩) hne y.cv).far (a := ⟨nb, i * 4 + 3, none⟩) hne (.bool y.n.leaf)
  have r3 := stepT_node (stepT_node (stepT_node (stepT_node (stepT_set (StepT.refl B tb w) 2 fv') hnb c1 (i * 4) y.kv) hnb c2 (i * 4 + 1) y.rv) hnb c3 (i * 4 + 2) y.cv) hnb c4 (i * 4 + 3) (.bool y.n.leaf)
  rw [hW]
  exact ⟨r1, r2, r3⟩
theorem below_ad (W : World) (o : Obj) : Below W.heap.size W (W.alloc o).drew := nw_drew (nw_alloc (Below.refl _ _) o)
theorem StepT.then {B tb : Nat} {a b c : World} (h : StepT B tb a b) (k : Below b.heap.size b c) : StepT B tb a c :=
  ⟨k.os.trans h.os, k.tape.trans h.tape, k.output.trans h.output, Nat.le_trans h.size k.size, fun i h1 h2 h3 => (k.block i (Nat.lt_of_lt_of_le h2 h.size)).trans (h.old i h1 h2 h3), fun g T cs hb h0 h1 h2 h3 => (h.blc g T cs hb h0 h1 h2 h3).below k, h.oth.trans (oth_below k)⟩

set_option maxHeartbeats 2000000 in
theorem laid_free {α : Type} (K : Ks α) (B : Nat) (w : World) (tb : Nat) (v fv : Value) (r : Int) (P : List (Nv α)) (F : List Int) (i : Nat) (x y : Nv α) (h : OwnT K B w v fv P ((i : Int) :: F)) (ht : Blc w tb 25 #[v, .int .i64 r, fv]) (hy : OwnNd K B w y) (hx : P[i]? = some x) (ha : ApartN fv P i y) (hF : F.length < 1000) :
    Calls Tryz.prog 51 #[.pointer (some ⟨tb, 0, none⟩), .agg #[y.kv, y.rv, y.cv, .bool y.n.leaf]] w fun e w' => ∃ fv', e = .returned (.int .i64 i) ∧ OwnT K B w' v fv (P.set i y) ((i : Int) :: F) ∧ FreeV B fv fv' ((i : Int) :: F) true ∧ Blc w' tb 25 #[v, .int .i64 r, fv'] ∧ StepT B tb w w' := by
  have hi : i < P.length := (List.getElem?_eq_some_iff.1 hx).1
  obtain ⟨nb, nc, ev, hnb, hnc, -, hnlt⟩ := own_pos h.ns.row (by omega)
  obtain ⟨g, c, ef, hgb, hgc, hgm, hglt⟩ := own_pos h.fr (by simp)
  obtain ⟨kq, kqc, hkv⟩ := hy.1.form
  obtain ⟨rq, rqc, hrv⟩ := hy.2.1.slice
  obtain ⟨cq, cqc, hcv⟩ := hy.2.2.1.slice
  obtain ⟨ykv, yrv, ycv, yn⟩ := y
  rw [List.length_map] at hkv
  dsimp only at hkv hrv hcv ⊢
  subst hkv hrv hcv
  subst ev ef
  have hf0 := World.ownsRow.cellAt h.fr 0 (by simp)
  have h0 := ht.cell 0
  have h2 := ht.cell 2
  have hfz := ht.free 2
  have hlt : Lt tb w.heap.size := ht.lt
  obtain ⟨cur, hcur⟩ := own_cur h.ns.row
  have hcl := World.ownsRow.cells h.ns.row (g := nb) rfl
  obtain ⟨a0, a1, a2, a3⟩ := nodeCells_at P i x hx
  have q0 := hcl _ _ a0
  have q1 := hcl _ _ a1
  have q2 := hcl _ _ a2
  have q3 := hcl _ _ a3
  rw [cell_add, Nat.zero_add] at q0 q1 q2 q3
  have z0 := hcur.free (i * 4)
  have z1 := hcur.free (i * 4 + 1)
  have z2 := hcur.free (i * 4 + 2)
  have z3 := hcur.free (i * 4 + 3)
  have hne : ¬ tb = nb := fun e => not_own h.ns.row ht (by decide) (by simp [Value.ownBlock, e])
  have hne2 : ¬ nb = tb := fun e => hne e.symm
  simp only [List.getElem?_toArray, List.getElem?_cons_succ, List.getElem?_cons_zero, List.map_cons] at h0 h2 hf0
  have hFin := h.fr
  rw [List.length_cons] at h2 hgc h ht
  rw [List.length_cons]
  have HM := Lib.hid (fun fv' W => laid_facts h rfl ht hy hx ha fv' W)
  have hL := Lib.hid hF
  have HO := Lib.hid h
  have HT := Lib.hid ht
  have HY := Lib.hid hy
  have HA := Lib.hid ha
  have HX := Lib.hid hx
  have HC := Lib.hid hcur
  have k1 : (i : Int) < (P.length : Int) := by omega
  have k0 : (0 : Int) ≤ (i : Int) := by omega
  clear h ht hy ha hx hcur hFin hcl a0 a1 a2 a3
  by_cases hc1 : c = 1
  · subst hc1
    go_enter Tryz.func51, Tryz.ntmps51
    go_wp2_with fail
    go_region
    all_goals
      go_wp2
      go_ret
      as_aux_lemma =>
      obtain ⟨m1, m2, m3⟩ := HM.out (.slice (some ⟨g, 0, none⟩) 0 0) _ rfl
      refine ⟨_, ret_int (by go_num), m1.below (below_ad _ _), ⟨fun h => (by cases h), fun _ W hW => ?_, _, _, _, rfl⟩, m2.below (below_ad _ _), m3.then (below_ad _ _)⟩
      have hF0 : F = [] := List.length_eq_zero_iff.1 (by omega)
      subst hF0
      exact IntsIn.none B W _ _
  · go_enter Tryz.func51, Tryz.ntmps51
    go_wp2_with fail
    go_region
    all_goals
      go_wp2
      go_ret
      as_aux_lemma =>
      obtain ⟨m1, m2, m3⟩ := HM.out (.slice (some ⟨g, 1, none⟩) F.length (c - 1)) _ rfl
      refine ⟨_, ret_int (by go_num), m1.below (below_ad _ _), ⟨fun h => (by cases h), fun _ W hW => ?_, _, _, _, rfl⟩, m2.below (below_ad _ _), m3.then (below_ad _ _)⟩
      have hL2 := hL.out
      exact IntsIn.drop (hW.inn (by simp; omega)) 1 _ _ (by simp) (by simp) (by simp; omega)
theorem node_forms {α : Type} {K : Ks α} {B : Nat} {w : World} {x : Nv α} (h : OwnNd K B w x) : ∃ p1 c1 p2 c2 p3 c3, x.kv = .slice p1 x.n.keys.length c1 ∧ x.rv = .slice p2 x.n.rows.length c2 ∧ x.cv = .slice p3 x.n.kids.length c3 := by
  obtain ⟨p1, c1, e1⟩ := h.1.form
  obtain ⟨p2, c2, e2⟩ := h.2.1.slice
  obtain ⟨p3, c3, e3⟩ := h.2.2.1.slice
  rw [List.length_map] at e1
  exact ⟨p1, c1, p2, c2, p3, c3, e1, e2, e3⟩
/-- The world anew, by what is known of it. -/
theorem wp_cut {c : Code} {P : Program} {Q : Exit → Act → World → Prop} {a : Act} {w : World} (R : World → Prop) (hR : R w) (h : ∀ W, R W → c.wp P Q a W) : c.wp P Q a w := h w hR
end Go.Proofs.YtaophiknldkfdaaGreatDoor
