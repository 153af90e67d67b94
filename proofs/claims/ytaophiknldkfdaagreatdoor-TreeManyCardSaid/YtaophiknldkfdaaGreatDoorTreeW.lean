/- Contracts of package tree: split. -/
import Derived.Test.YtaophiknldkfdaaGreatDoorTreeV
namespace Go.Proofs.YtaophiknldkfdaaGreatDoor
open Go.RowKit

theorem node_cells {α : Type} {K : Ks α} {B : Nat} {w : World} {nb n cap : Nat} {fv : Value} {P : List (Nv α)} {F : List Int} {i : Nat} {x : Nv α} (h : OwnT K B w (.slice (some ⟨nb, 0, none⟩) n cap) fv P F) (hn : P.length = n) (hx : P[i]? = some x) :
    w.cell? ⟨nb, i * 4, none⟩ = some x.kv ∧ w.cell? ⟨nb, i * 4 + 1, none⟩ = some x.rv ∧ w.cell? ⟨nb, i * 4 + 2, none⟩ = some x.cv ∧ w.cell? ⟨nb, i * 4 + 3, none⟩ = some (.bool x.n.leaf) ∧ (∀ j, w.frozen? ⟨nb, j, none⟩ = false) ∧ Lt nb w.heap.size ∧ i < n := by
  subst hn
  have hcl := World.ownsRow.cells h.ns.row (g := nb) rfl
  obtain ⟨a0, a1, a2, a3⟩ := nodeCells_at P i x hx
  have q0 := hcl _ _ a0
  have q1 := hcl _ _ a1
  have q2 := hcl _ _ a2
  have q3 := hcl _ _ a3
  rw [cell_add, Nat.zero_add] at q0 q1 q2 q3
  exact ⟨q0, q1, q2, q3, fun j => World.ownsRow.frozenAt h.ns.row j, (World.ownsRow.lt h.ns.row nb rfl).2, (List.getElem?_eq_some_iff.1 hx).1⟩
set_option maxRecDepth 100000 in
set_option maxHeartbeats 4000000 in
theorem split_any {α : Type} (K : Ks α) (B tb : Nat) (w : World) (S S' : St α) (i k : Nat) (h : TreeS K B tb w S) (hB : B ≤ w.heap.size) (hs : splitP S i k = some S') :
    Calls Tryz.prog 50 #[.pointer (some ⟨tb, 0, none⟩), .agg #[.int .i64 i, .int .i64 k]] w fun e w' => e = .returned (.tuple #[]) ∧ TreeS K B tb w' S' ∧ StepT B tb w w' := by
  obtain ⟨xn, j, yn, lo, b, hi, S2, m, zn, hxn, hxk, hyn, hhv, hld, hzn, g1, g2, g3, g4, rfl⟩ := split_parts hs
  obtain ⟨P, v, fv0, fv, hnd, hot, hfv, htb⟩ := h
  obtain ⟨x, hx, rfl⟩ := nds_some hnd hxn
  obtain ⟨y, hy, rfl⟩ := nds_some hnd hyn
  obtain ⟨nb, nc, ev, hnb, hnc, -, -⟩ := own_pos hot.ns.row (by have := (List.getElem?_eq_some_iff.1 hx).1; omega)
  obtain ⟨fp, fn, fc, hff⟩ := hfv.form
  subst ev hff
  obtain ⟨SN, SR, SF, SA⟩ := S
  dsimp only at hnd hot hfv htb hld hxn hyn
  subst hnd
  have HOT := Lib.hid hot
  have HFV := Lib.hid hfv
  have HTB := Lib.hid htb
  have HX := Lib.hid hx
  have HY := Lib.hid hy
  have HXK := Lib.hid hxk
  have HH := Lib.hid hhv
  have HLD := Lib.hid hld
  have HZN := Lib.hid hzn
  have hyo := hot.ns.each y (List.mem_of_getElem? hy)
  obtain ⟨p1, c1, p2, c2, p3, c3, e1, e2, e3⟩ := node_forms hyo
  obtain ⟨q0, q1, q2, q3, qf, hnl, hjl⟩ := node_cells hot rfl hy
  have HHV : Hid (∀ w1, Below w.heap.size w w1 → Calls Tryz.prog 71 #[.agg #[.slice p1 y.n.keys.length c1, .slice p2 y.n.rows.length c2, .slice p3 y.n.kids.length c3, .bool y.n.leaf]] w1 (HalfPost K w1 lo b hi)) := Lib.hid (fun w1 hb => by
    have := halves_all K B w1 y lo b hi (hyo.below hb).inn hhv
    rw [e1, e2, e3] at this; exact this)
  have hz0 := qf (j * 4)
  have hz1 := qf (j * 4 + 1)
  have hz2 := qf (j * 4 + 2)
  have hz3 := qf (j * 4 + 3)
  have h0 := htb.cell 0
  have h1 := htb.cell 1
  have h2 := htb.cell 2
  have hlt : Lt tb w.heap.size := htb.lt
  have hltb : Lt tb w.heap.size := htb.lt
  simp only [List.getElem?_toArray, List.getElem?_cons_succ, List.getElem?_cons_zero] at h0 h1 h2
  rw [e1] at q0
  rw [e2] at q1
  rw [e3] at q2
  have k1 : (j : Int) < (P.length : Int) := by omega
  have k0 : (0 : Int) ≤ (j : Int) := by omega
  have HNN := Lib.hid (hot.ns.inn)
  generalize y.n.keys.length = L1 at *
  generalize y.n.rows.length = L2 at *
  generalize y.n.kids.length = L3 at *
  generalize y.n.leaf = lf at *
  clear hs hot hfv htb hx hy hxk hhv hld hzn hxn hyn hyo e1 e2 e3 qf
  go_enter Tryz.func50, Tryz.ntmps50
  go_wp2_with fail
  (refine wp_region_quiet_more (by kernel_rfl) (by kernel_rfl) ?_; (repeat (first | go_big_quiet_skip | quiet_step ((first | (go_at_call 41; exact Calls.more_of (kidAt_any K B _ _ _ _ P i k x j (HNN.out.below (by (repeat (first | exact Below.refl _ _ | assumption | refine nw_more ?_ _ _ | refine nw_alloc ?_ _ | refine nw_drew ?_ | refine nw_drewN ?_ _ | refine nw_set ?_ (by first | (simp; done) | (simp; omega) | omega) _)))) HX.out HXK.out)))))); refine wpQuiet_nil ?_; intro _ hw'; obtain ⟨⟨nq, esq⟩, hw''⟩ := hw'; subst hw''; dsimp only)
  go_wp2_with (first | (go_at_call 71; refine (HHV.out _ (by (repeat (first | exact Below.refl _ _ | assumption | refine nw_more ?_ _ _ | refine nw_alloc ?_ _ | refine nw_drew ?_ | refine nw_drewN ?_ _ | refine nw_set ?_ (by first | (simp; done) | (simp; omega) | omega) _)))).mono ?_; rintro e w1 hpost; obtain ⟨lov, hiv, rfl, hln, hhn, hlo, hhi, hap, hbl⟩ := hpost; obtain ⟨n1, es1, rfl⟩ := below_more hbl; clear hbl; obtain ⟨lp1, lc1, lp2, lc2, lp3, lc3, le1, le2, le3⟩ := node_forms hlo; obtain ⟨hp1, hc1, hp2, hc2, hp3, hc3, he1, he2, he3⟩ := node_forms hhi))
  obtain ⟨lkv, lrv, lcv, ln⟩ := lov
  obtain ⟨hkv, hrv, hcv, hn⟩ := hiv
  dsimp only at hln hhn le1 le2 le3 he1 he2 he3
  subst hln hhn le1 le2 le3 he1 he2 he3
  have HAP : Hid (∀ i, ApartN fv0 (P.set j ⟨.slice lp1 ln.keys.length lc1, .slice lp2 ln.rows.length lc2, .slice lp3 ln.kids.length lc3, ln⟩) i ⟨.slice hp1 hn.keys.length hc1, .slice hp2 hn.rows.length hc2, .slice hp3 hn.kids.length hc3, hn⟩) := Lib.hid (ApartN.set HY.out (fun i => ApartN.late HOT.out (by simp; omega) hhi i) hap)
  have HAL : Hid (ApartN fv0 P j ⟨.slice lp1 ln.keys.length lc1, .slice lp2 ln.rows.length lc2, .slice lp3 ln.kids.length lc3, ln⟩) := Lib.hid (ApartN.late HOT.out (by simp; omega) hlo j)
  refine wp_cut (fun W => Hid (OwnT K B W (.slice (some ⟨nb, 0, none⟩) P.length nc) fv0 P SF) ∧ Hid (Blc W tb 25 #[.slice (some ⟨nb, 0, none⟩) P.length nc, .int .i64 SR, .slice fp fn fc]) ∧ Hid (Blc W w.heap.size 82 #[.int .i64 i, .int .i64 k]) ∧
    Hid (Blc W (w.heap.size + 1 + esq.size + es1.size) 53 #[.slice lp1 ln.keys.length lc1, .slice lp2 ln.rows.length lc2, .slice lp3 ln.kids.length lc3, .bool ln.leaf]) ∧ Hid (Blc W (w.heap.size + 1 + esq.size + es1.size + 1) 53 #[.slice hp1 hn.keys.length hc1, .slice hp2 hn.rows.length hc2, .slice hp3 hn.kids.length hc3, .bool hn.leaf]) ∧
    Hid (OwnNd K B W ⟨.slice lp1 ln.keys.length lc1, .slice lp2 ln.rows.length lc2, .slice lp3 ln.kids.length lc3, ln⟩) ∧ Hid (OwnNd K B W ⟨.slice hp1 hn.keys.length hc1, .slice hp2 hn.rows.length hc2, .slice hp3 hn.kids.length hc3, hn⟩) ∧ Hid (StepT B tb w W) ∧ Hid (B ≤ W.heap.size)) ?_ ?_
  · exact ⟨Lib.hid (HOT.out.below (by (repeat (first | exact Below.refl _ _ | assumption | refine nw_more ?_ _ _ | refine nw_alloc ?_ _ | refine nw_drew ?_ | refine nw_drewN ?_ _ | refine nw_set ?_ (by first | (simp; done) | (simp; omega) | omega) _)))), Lib.hid (HTB.out.below (by (repeat (first | exact Below.refl _ _ | assumption | refine nw_more ?_ _ _ | refine nw_alloc ?_ _ | refine nw_drew ?_ | refine nw_drewN ?_ _ | refine nw_set ?_ (by first | (simp; done) | (simp; omega) | omega) _)))), Lib.hid (((((Blc.new w _ _).mre _ _).mre _ _).alloc _).alloc _), Lib.hid ((Blc.newAt _ _ _ (by simp)).alloc _), Lib.hid (Blc.newAt _ _ _ (by simp)), Lib.hid ((hlo.below (nw_alloc (nw_alloc (Below.refl _ _) _) _)).mono (by simp; omega)), Lib.hid ((hhi.below (nw_alloc (nw_alloc (Below.refl _ _) _) _)).mono (by simp; omega)), Lib.hid ((StepT.refl B tb w).then (by (repeat (first | exact Below.refl _ _ | assumption | refine nw_more ?_ _ _ | refine nw_alloc ?_ _ | refine nw_drew ?_ | refine nw_drewN ?_ _ | refine nw_set ?_ (by first | (simp; done) | (simp; omega) | omega) _)))), Lib.hid (by simp; omega)⟩
  clear hlo hhi hap HHV HNN HTB h0 h1 h2 q0 q1 q2 q3 hz0 hz1 hz2 hz3
  have hne2 : ¬ (w.heap.size + 1 + esq.size + es1.size + 1 = nb) := by have := (World.ownsRow.lt HOT.out.ns.row nb rfl).2; omega
  generalize w.heap.size + 1 + esq.size + es1.size = lb at *
  rintro W ⟨HOW, HTW, HPW, HLW, HHW, HLO, HHI, HSW, HBW⟩
  have h0 := HTW.out.cell 0
  have hlt2 : Lt tb W.heap.size := HTW.out.lt
  obtain ⟨q0, q1, q2, q3, qf, hnl2, -⟩ := node_cells HOW.out rfl HY.out
  obtain ⟨yp1, yc1, yp2, yc2, yp3, yc3, e1, e2, e3⟩ := node_forms (HOW.out.ns.each y (List.mem_of_getElem? HY.out))
  rw [e1] at q0
  rw [e2] at q1
  rw [e3] at q2
  have l0 := HLW.out.cell 0
  have l1 := HLW.out.cell 1
  have l2 := HLW.out.cell 2
  have l3 := HLW.out.cell 3
  have hlb : Lt lb W.heap.size := HLW.out.lt
  simp only [List.getElem?_toArray, List.getElem?_cons_succ, List.getElem?_cons_zero] at h0 l0 l1 l2 l3
  have hz0 := qf (j * 4)
  have hz1 := qf (j * 4 + 1)
  have hz2 := qf (j * 4 + 2)
  have hz3 := qf (j * 4 + 3)
  clear e1 e2 e3 qf hnl hlt
  go_cut [27, 28, 29, 30, 31, 32, 33] (fun s27 s28 s29 s30 s31 s32 s33 wx => Hid (OwnT K B wx (.slice (some ⟨nb, 0, none⟩) P.length nc) fv0 (P.set j ⟨.slice lp1 ln.keys.length lc1, .slice lp2 ln.rows.length lc2, .slice lp3 ln.kids.length lc3, ln⟩) SF) ∧ Hid (OwnNd K B wx ⟨.slice hp1 hn.keys.length hc1, .slice hp2 hn.rows.length hc2, .slice hp3 hn.kids.length hc3, hn⟩) ∧ Hid (StepT B tb W wx) ∧ Hid (Blc wx tb 25 #[.slice (some ⟨nb, 0, none⟩) P.length nc, .int .i64 SR, .slice fp fn fc]) ∧ Hid (Blc wx (lb + 1) 53 #[.slice hp1 hn.keys.length hc1, .slice hp2 hn.rows.length hc2, .slice hp3 hn.kids.length hc3, .bool hn.leaf]))
  case first =>
    go_region
    all_goals
      go_wp2
      go_meet
      as_aux_lemma =>
      obtain ⟨r1, r2, r3, r4⟩ := node_facts (tb := tb) HOW.out rfl HLO.out HY.out HAL.out _ rfl
      have hd := fun (X : World) => nw_drew (Below.refl X.heap.size X)
      exact ⟨Lib.hid (r1.below (hd _)), Lib.hid ((r3 _ HHI.out).below (hd _)), Lib.hid (r2.then (hd _)), Lib.hid ((r4 _ _ _ HTW.out (fun e => not_own HOW.out.ns.row HTW.out (by decide) (by rw [e]; rfl))).below (hd _)), Lib.hid ((r4 _ _ _ HHW.out hne2).below (hd _))⟩
  case rest =>
  obtain ⟨HO3, HI3, HS3, HT3, HH3⟩ := hcut
  clear HOW HTW HLW HLO HHI HOT h0 hlt2 q0 q1 q2 q3 hnl2 l0 l1 l2 l3 hlb hz0 hz1 hz2 hz3
  have HLD2 : Hid (laidP ⟨ndsOf (P.set j ⟨.slice lp1 ln.keys.length lc1, .slice lp2 ln.rows.length lc2, .slice lp3 ln.kids.length lc3, ln⟩), SR, SF, SA⟩ hn = some (S2, m)) := Lib.hid (by rw [ndsOf, List.map_set]; exact HLD.out)
  generalize P.set j ⟨.slice lp1 ln.keys.length lc1, .slice lp2 ln.rows.length lc2, .slice lp3 ln.kids.length lc3, ln⟩ = P1 at *
  have HB3 := Lib.hid (Nat.le_trans HBW.out HS3.out.size)
  have l0 := HH3.out.cell 0
  have l1 := HH3.out.cell 1
  have l2 := HH3.out.cell 2
  have l3 := HH3.out.cell 3
  have hlb : Lt (lb + 1) wc.heap.size := HH3.out.lt
  simp only [List.getElem?_toArray, List.getElem?_cons_succ, List.getElem?_cons_zero] at l0 l1 l2 l3
  go_wp2_with (first | (go_at_call 51; refine (laid_all K B wc tb _ fv0 _ SR P1 SF SA ⟨.slice hp1 hn.keys.length hc1, .slice hp2 hn.rows.length hc2, .slice hp3 hn.kids.length hc3, hn⟩ S2 m HO3.out HFV.out HB3.out HT3.out HI3.out HAP.out HLD2.out).mono ?_; rintro e w4 ⟨rfl, P2, v2, fv2, hnd2, hot2, hfv2, htb2, hst2⟩))
  obtain ⟨z, hz, hzz⟩ := nds_some hnd2 HZN.out
  subst hzz
  obtain ⟨nb2, nc2, ev2, -, -, -, -⟩ := own_pos hot2.ns.row (by have := (List.getElem?_eq_some_iff.1 hz).1; omega)
  subst ev2
  have HO4 := Lib.hid hot2
  have HT4 := Lib.hid htb2
  have HFV2 := Lib.hid hfv2
  have HND2 := Lib.hid hnd2
  have HZ := Lib.hid hz
  have HS4 := Lib.hid ((HSW.out.trans HS3.out).trans hst2)
  have HB4 : Hid (B ≤ w4.heap.size) := Lib.hid (Nat.le_trans HB3.out hst2.size)
  have hpl : ¬ w.heap.size = tb := fun e => by have h9 : tb < w.heap.size := hltb; omega
  have HP4 : Hid (Blc w4 w.heap.size 82 #[.int .i64 i, .int .i64 k]) := Lib.hid (hst2.blc _ _ _ (HS3.out.blc _ _ _ HPW.out hpl (by decide) (by decide) (by decide)) hpl (by decide) (by decide) (by decide))
  clear HO3 HI3 HT3 HH3 l0 l1 l2 l3 hlb hot2 htb2 hfv2 hnd2 hz hst2 HAP HLD2 HPW HB3 HS3 HSW HBW hnb hnc hjl k0 k1 hne2
  have h0 := HT4.out.cell 0
  have hlt4 : Lt tb w4.heap.size := HT4.out.lt
  have p0 := HP4.out.cell 0
  have hlp : Lt w.heap.size w4.heap.size := HP4.out.lt
  simp only [List.getElem?_toArray, List.getElem?_cons_zero] at h0 p0
  have hi2 : i < P2.length := (List.getElem?_eq_some_iff.1 HZ.out).1
  have k1 : (i : Int) < (P2.length : Int) := by omega
  have k0 : (0 : Int) ≤ (i : Int) := by omega
  (refine wp_region_quiet_more (by kernel_rfl) (by kernel_rfl) ?_; (repeat (first | go_big_quiet_skip | quiet_step ((first | fail)))); refine wpQuiet_nil ?_; intro _ hw'; obtain ⟨⟨nq, esq⟩, hw''⟩ := hw'; subst hw''; dsimp only)
  go_wp2_with fail
  refine wp_cut (fun W => Hid (OwnT K B W (.slice (some ⟨nb2, 0, none⟩) P2.length nc2) fv0 P2 S2.free) ∧ Hid (Blc W tb 25 #[.slice (some ⟨nb2, 0, none⟩) P2.length nc2, .int .i64 S2.root, fv2]) ∧ Hid (Blc W w.heap.size 82 #[.int .i64 i, .int .i64 k]) ∧ Hid (StepT B tb w W) ∧ Hid (B ≤ W.heap.size)) ?_ ?_
  · exact ⟨Lib.hid (HO4.out.below (by (repeat (first | exact Below.refl _ _ | assumption | refine nw_more ?_ _ _ | refine nw_alloc ?_ _ | refine nw_drew ?_ | refine nw_drewN ?_ _ | refine nw_set ?_ (by first | (simp; done) | (simp; omega) | omega) _)))), Lib.hid (HT4.out.below (by (repeat (first | exact Below.refl _ _ | assumption | refine nw_more ?_ _ _ | refine nw_alloc ?_ _ | refine nw_drew ?_ | refine nw_drewN ?_ _ | refine nw_set ?_ (by first | (simp; done) | (simp; omega) | omega) _)))), Lib.hid (HP4.out.below (by (repeat (first | exact Below.refl _ _ | assumption | refine nw_more ?_ _ _ | refine nw_alloc ?_ _ | refine nw_drew ?_ | refine nw_drewN ?_ _ | refine nw_set ?_ (by first | (simp; done) | (simp; omega) | omega) _)))), Lib.hid (HS4.out.then (by (repeat (first | exact Below.refl _ _ | assumption | refine nw_more ?_ _ _ | refine nw_alloc ?_ _ | refine nw_drew ?_ | refine nw_drewN ?_ _ | refine nw_set ?_ (by first | (simp; done) | (simp; omega) | omega) _)))), Lib.hid (Nat.le_trans HB4.out (by simp))⟩
  clear HO4 HT4 HP4 HS4 HB4 h0 hlt4 p0 hlp
  rintro W ⟨HO5, HT5, HP5, HS5, HB5⟩
  have p1' := HP5.out.cell 1
  have hlp : Lt w.heap.size W.heap.size := HP5.out.lt
  simp only [List.getElem?_toArray, List.getElem?_cons_succ, List.getElem?_cons_zero] at p1'
  obtain ⟨zp1, zc1, zp2, zc2, zp3, zc3, e1, e2, e3⟩ := node_forms (HO5.out.ns.each z (List.mem_of_getElem? HZ.out))
  obtain ⟨q0, q1, q2, -, qf, hnl2, -⟩ := node_cells HO5.out rfl HZ.out
  have hzf := qf (i * 4)
  rw [e1] at q0
  have hd := nw_drew (Below.refl W.heap.size W)
  have HINS : Hid (Calls Tryz.prog 46 #[.slice zp1 z.n.keys.length zc1, .int .i64 k, .slice (some ⟨W.heap.size, 0, none⟩) 1 1] ((W.alloc (Obj.cells #[Value.string (K.s b)] 9)).drew) (InsKPost K B W.drew nb2 i z.n.keys.length zc1 k zp1 (.slice (some ⟨nb2, 0, none⟩) P2.length nc2) fv0 P2 S2.free z b)) :=
    Lib.hid (insK_calls K B W.drew nb2 i P2.length nc2 zc1 k _ zp1 fv0 P2 S2.free z b (HO5.out.below hd) rfl HZ.out (Nat.le_trans HB5.out hd.size) g1 (by omega) rfl e1)
  clear qf q1 q2 e1 hd
  go_cut [44, 45, 46, 47, 48, 49, 50, 51, 52, 53, 54, 55] (fun s44 s45 s46 s47 s48 s49 s50 s51 s52 s53 s54 s55 wx => ∃ (u : Value), Hid (OwnT K B wx (.slice (some ⟨nb2, 0, none⟩) P2.length nc2) fv0 (P2.set i ⟨u, z.rv, z.cv, ⟨insAt z.n.keys k b, z.n.rows, z.n.kids, z.n.leaf⟩⟩) S2.free) ∧ Hid (Step B W wx))
  case first =>
    go_region_with (first | (go_at_call 46; refine HINS.out.mono ?_; rintro e w6 ⟨up, uc, rfl, hc0, hf0, hlt6, ho6, hs6⟩))
    all_goals
      go_wp2
      go_meet
      as_aux_lemma =>
      exact ⟨_, ho6, Lib.hid ((step_of (nw_drew (Below.refl W.heap.size W)) HB5.out).trans hs6.out)⟩
  case rest =>
  obtain ⟨u, HO6, HS6⟩ := hcut
  have HP6 := Lib.hid (HS6.out.blc HP5.out (by decide) (by decide) (by decide))
  have HT6 := Lib.hid (HS6.out.blc HT5.out (by decide) (by decide) (by decide))
  have HSS := Lib.hid (HS5.out.trans (HS6.out.toT tb))
  have HB6 := Lib.hid (Nat.le_trans HB5.out HS6.out.1.size)
  clear HO5 HT5 HP5 HS5 HB5 HS6 HINS q0 hzf hnl2 p1' hlp
  obtain ⟨z1, hz1⟩ : ∃ z1 : Nv α, z1 = ⟨u, z.rv, z.cv, ⟨insAt z.n.keys k b, z.n.rows, z.n.kids, z.n.leaf⟩⟩ := ⟨_, rfl⟩
  rw [← hz1] at HO6
  have hz1n : z1.n = ⟨insAt z.n.keys k b, z.n.rows, z.n.kids, z.n.leaf⟩ := by rw [hz1]
  have hz1c : z1.cv = .slice zp3 z.n.kids.length zc3 := by rw [hz1]; exact e3
  clear hz1 e2 e3
  have hlen1 : (P2.set i z1).length = P2.length := List.length_set
  have hg1 : (P2.set i z1)[i]? = some z1 := by rw [List.getElem?_set_self hi2]
  generalize hQ : P2.set i z1 = Q1 at *
  have HQ := Lib.hid hQ
  have HG1 := Lib.hid hg1
  have HZ1N := Lib.hid hz1n
  obtain ⟨-, -, q2, -, qf, hnl2, -⟩ := node_cells HO6.out hlen1 hg1
  have hzf := qf (i * 4 + 2)
  rw [hz1c] at q2
  have p1' := HP6.out.cell 1
  have hlp : Lt w.heap.size wc.heap.size := HP6.out.lt
  simp only [List.getElem?_toArray, List.getElem?_cons_succ, List.getElem?_cons_zero] at p1'
  have hd := nw_drew (Below.refl wc.heap.size wc)
  have hkl : z1.n.kids.length = z.n.kids.length := by rw [hz1n]
  have HINC : Hid (Calls Tryz.prog 47 #[.slice zp3 z.n.kids.length zc3, .int .i64 ((k : Int) + 1), .slice (some ⟨wc.heap.size, 0, none⟩) 1 1] ((wc.alloc (Obj.cells #[Value.int .i64 m] 3)).drew) (InsCPost K B wc.drew nb2 i z.n.kids.length zc3 (k + 1) zp3 (.slice (some ⟨nb2, 0, none⟩) P2.length nc2) fv0 Q1 S2.free z1 m)) :=
    Lib.hid (insC_calls K B wc.drew nb2 i P2.length nc2 zc3 (k + 1) _ zp3 fv0 Q1 S2.free z1 m (HO6.out.below hd) hlen1 hg1 (Nat.le_trans HB6.out hd.size) g2 (by omega) hkl hz1c)
  have hw1 : IntKind.i64.wrap ((k : Int) + 1) = (k : Int) + 1 := IntWalk.i64_in _ (by omega)
  clear qf hd hkl hQ hg1 hz1n hz1c
  go_wp2_with fail
  go_region_with (first | (go_at_call 47; refine HINC.out.mono ?_; rintro e w6 ⟨up, uc, rfl, hc0, hf0, hlt6, ho6, hs6⟩))
  all_goals
    go_wp2
    go_end0
    as_aux_lemma =>
    have hs7 := (step_of (nw_drew (Below.refl wc.heap.size wc)) HB6.out).trans hs6.out
    refine ⟨rfl, ⟨_, _, fv0, fv2, ?_, ho6.out, HFV2.out, hs7.blc HT6.out (by decide) (by decide) (by decide)⟩, HSS.out.trans (hs7.toT tb)⟩
    rw [← HQ.out, List.set_set, ndsOf, List.map_set, HZ1N.out]
    have h9 := HND2.out
    unfold ndsOf at h9
    rw [h9]
end Go.Proofs.YtaophiknldkfdaaGreatDoor
