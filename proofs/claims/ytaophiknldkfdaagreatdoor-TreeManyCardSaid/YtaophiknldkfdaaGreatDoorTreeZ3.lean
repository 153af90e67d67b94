/- Contracts of package tree: join. -/
import Derived.Test.YtaophiknldkfdaaGreatDoorTreeZ2
import Derived.Test.YtaophiknldkfdaaGreatDoorTPar
namespace Go.Proofs.YtaophiknldkfdaaGreatDoor
open Go.RowKit

theorem TreeS.below {α : Type} {K : Ks α} {B tb : Nat} {w w' : World} {S : St α} (h : TreeS K B tb w S) (hb : Below w.heap.size w w') : TreeS K B tb w' S := by
  obtain ⟨P, v, fv0, fv, hnd, hot, hfv, htb⟩ := h
  exact ⟨P, v, fv0, fv, hnd, hot.below hb, hfv, htb.below hb⟩

set_option maxRecDepth 100000 in
set_option maxHeartbeats 10000000 in
theorem join_any {α : Type} (K : Ks α) (B tb : Nat) (w : World) (S S' : St α) (i k : Nat) (h : TreeS K B tb w S) (hB : B ≤ w.heap.size) (hs : joinP S i k = some S') :
    Calls Tryz.prog 54 #[.pointer (some ⟨tb, 0, none⟩), .agg #[.int .i64 i, .int .i64 k]] w fun e w' => e = .returned (.tuple #[]) ∧ TreeS K B tb w' S' ∧ StepT B tb w w' := by
  obtain ⟨S1, c, d, S2, yn, hmid, hfree, hyn, hlast⟩ := join_parts hs
  obtain ⟨xn, b, lon, hin, hxn, hxc, hxd, hxb, hlon, hhin, hci, hdi, hcd, hs1, hs2, hs3, rfl⟩ := mid_parts hmid
  obtain ⟨P, v, fv0, fv, hnd, hot, hfv, htb⟩ := h
  obtain ⟨x, hx, rfl⟩ := nds_some hnd hxn
  obtain ⟨lo, hlo, rfl⟩ := nds_some hnd hlon
  obtain ⟨hi, hhi, rfl⟩ := nds_some hnd hhin
  obtain ⟨k', hk'⟩ : ∃ k', k - 1 = k' := ⟨_, rfl⟩
  rw [hk'] at hxc hxd hxb hlast hfree
  obtain ⟨SN, SR, SF, SA⟩ := S
  dsimp only at *
  subst hnd
  have hil : i < P.length := (List.getElem?_eq_some_iff.1 hx).1
  have hcl : c < P.length := (List.getElem?_eq_some_iff.1 hlo).1
  have hdl : d < P.length := (List.getElem?_eq_some_iff.1 hhi).1
  obtain ⟨nb, nc, ev, hnb, hnc, -, -⟩ := own_pos hot.ns.row (by omega)
  subst ev
  have hxo := hot.ns.each x (List.mem_of_getElem? hx)
  have hkl : k' + 1 < x.n.kids.length := (List.getElem?_eq_some_iff.1 hxd).1
  have hkk : k' < x.n.keys.length := (List.getElem?_eq_some_iff.1 hxb).1
  have hk1000 := hxo.2.2.2.2.2.2
  obtain ⟨cg, cc, ecv, -, hcc, -, hcglt⟩ := own_pos hxo.2.2.1 (by omega)
  obtain ⟨kg, kc, ekv, -, hkc, -, hkglt⟩ := own_pos hxo.1 (by rw [List.length_map]; omega)
  have m1 := World.ownsRow.cellAt (ecv ▸ hxo.2.2.1) k' (by omega)
  have m2 := World.ownsRow.cellAt (ecv ▸ hxo.2.2.1) (k' + 1) (by omega)
  have m3 := World.ownsRow.cellAt (ekv ▸ hxo.1) k' (by rw [List.length_map]; omega)
  rw [List.getElem?_map, hxc] at m1
  rw [List.getElem?_map, hxd] at m2
  rw [List.getElem?_map, List.getElem?_map, hxb] at m3
  simp only [Option.map_some] at m1 m2 m3
  rw [List.length_map] at ekv hkc
  obtain ⟨q0, -, q2, -, -, hnl, -⟩ := node_cells hot rfl hx
  rw [ekv] at q0
  rw [ecv] at q2
  have h0 := htb.cell 0
  have hlt : Lt tb w.heap.size := htb.lt
  simp only [List.getElem?_toArray, List.getElem?_cons_zero] at h0
  have HOT := Lib.hid hot
  have HFV := Lib.hid hfv
  have HTB := Lib.hid htb
  have HX := Lib.hid hx
  have HLO := Lib.hid hlo
  have HHI := Lib.hid hhi
  have HFR := Lib.hid hfree
  have HYN := Lib.hid hyn
  have HLAST := Lib.hid hlast
  have HEK := Lib.hid ekv
  have HEC := Lib.hid ecv
  have hne : ¬ nb = w.heap.size := by have := (World.ownsRow.lt hot.ns.row nb rfl).2; omega
  have hnet : ¬ tb = w.heap.size := by have : tb < w.heap.size := hlt; omega
  generalize hLK : x.n.keys.length = LK at *
  generalize hLC : x.n.kids.length = LC at *
  have HLK := Lib.hid hLK
  have HLC := Lib.hid hLC
  clear hs hxn hlon hhin hmid hfree hyn hlast hxb hxd hxc hot hfv htb hx hlo hhi hxo hLK hLC ekv ecv hnb hnc
  have k1 : (i : Int) < (P.length : Int) := by omega
  have k0 : (0 : Int) ≤ (i : Int) := by omega
  have k2 : (k' : Int) < (LC : Int) := by omega
  have k3 : (k' : Int) + 1 < (LC : Int) := by omega
  have k4 : (k' : Int) < (LK : Int) := by omega
  have k5 : (0 : Int) ≤ (k' : Int) + 1 := by omega
  have k6 : ((k' : Int) + 1).toNat = k' + 1 := by omega
  have hkw : IntKind.i64.wrap ((k : Int) - 1) = (k : Int) - 1 := IntWalk.i64_in _ (by omega)
  have hkw1 : IntKind.i64.wrap ((k' : Int) + 1) = (k' : Int) + 1 := IntWalk.i64_in _ (by omega)
  have hkw2 : IntKind.i64.wrap ((k' : Int) + 2) = (k' : Int) + 2 := IntWalk.i64_in _ (by omega)
  have hkm : max ((k : Int) - 1) 0 = (k' : Int) := by omega
  go_enter Tryz.func54, Tryz.ntmps54
  go_upto_region 2 with (fail)
  (refine wp_region_quiet_more (by kernel_rfl) (by kernel_rfl) ?_; (repeat (first | go_big_quiet_skip | quiet_step ((first | fail)))); refine wpQuiet_nil ?_; intro _ hw'; obtain ⟨⟨nq, esq⟩, hw''⟩ := hw'; subst hw''; dsimp only)
  go_wp2_with fail
  (refine wp_region_quiet_more (by kernel_rfl) (by kernel_rfl) ?_; (repeat (first | go_big_quiet_skip | quiet_step ((first | fail)))); refine wpQuiet_nil ?_; intro _ hw'; obtain ⟨⟨nq, esq⟩, hw''⟩ := hw'; subst hw''; dsimp only)
  go_wp2_with fail
  refine wp_cut (fun W => Hid (OwnT K B W (.slice (some ⟨nb, 0, none⟩) P.length nc) fv0 P SF) ∧ Hid (Blc W tb 25 #[.slice (some ⟨nb, 0, none⟩) P.length nc, .int .i64 SR, fv]) ∧ Hid (Blc W w.heap.size 82 #[.int .i64 i, .int .i64 k']) ∧ W.cell? ⟨kg, k', none⟩ = some (.string (K.s b)) ∧ Lt kg W.heap.size ∧ Hid (StepT B tb w W) ∧ Hid (B ≤ W.heap.size)) ?_ ?_
  · refine ⟨Lib.hid (HOT.out.below (by (repeat (first | exact Below.refl _ _ | assumption | refine nw_more ?_ _ _ | refine nw_alloc ?_ _ | refine nw_drew ?_ | refine nw_drewN ?_ _ | refine nw_set ?_ (by first | (simp; done) | (simp; omega) | omega) _)))), Lib.hid (HTB.out.below (by (repeat (first | exact Below.refl _ _ | assumption | refine nw_more ?_ _ _ | refine nw_alloc ?_ _ | refine nw_drew ?_ | refine nw_drewN ?_ _ | refine nw_set ?_ (by first | (simp; done) | (simp; omega) | omega) _)))), Lib.hid (by (repeat (first | exact Blc.new _ _ _ | refine Blc.mre ?_ _ _))), ?_, ?_, Lib.hid ((StepT.refl B tb w).then (by (repeat (first | exact Below.refl _ _ | assumption | refine nw_more ?_ _ _ | refine nw_alloc ?_ _ | refine nw_drew ?_ | refine nw_drewN ?_ _ | refine nw_set ?_ (by first | (simp; done) | (simp; omega) | omega) _)))), Lib.hid (by simp; omega)⟩
    · simp [go_sem, *]
    · simp [go_sem, *]
  clear HOT HTB q0 q2 h0 hlt hnl m1 m2 m3 hkglt hcglt
  rintro W ⟨HO, HT, HP, m3, hkglt, HS, HBW⟩
  have h0 := HT.out.cell 0
  have p1' := HP.out.cell 1
  have hlt : Lt tb W.heap.size := HT.out.lt
  have hlp : Lt w.heap.size W.heap.size := HP.out.lt
  simp only [List.getElem?_toArray, List.getElem?_cons_succ, List.getElem?_cons_zero] at h0 p1'
  obtain ⟨x0, -, -, -, -, hnl, -⟩ := node_cells HO.out rfl HX.out
  rw [HEK.out] at x0
  obtain ⟨a0, a1, a2, a3, -, -, -⟩ := node_cells HO.out rfl HLO.out
  obtain ⟨d0, d1, d2, d3, -, -, -⟩ := node_cells HO.out rfl HHI.out
  obtain ⟨lp1, lc1, lp2, lc2, lp3, lc3, e1, e2, e3⟩ := node_forms (HO.out.ns.each lo (List.mem_of_getElem? HLO.out))
  obtain ⟨hp1, hc1, hp2, hc2, hp3, hc3, f1, f2, f3⟩ := node_forms (HO.out.ns.each hi (List.mem_of_getElem? HHI.out))
  have hd := nw_drew (Below.refl W.heap.size W)
  have HJ : Hid (Calls Tryz.prog 72 #[.agg #[.slice lp1 lo.n.keys.length lc1, .slice lp2 lo.n.rows.length lc2, .slice lp3 lo.n.kids.length lc3, .bool lo.n.leaf], .string (K.s b), .agg #[.slice hp1 hi.n.keys.length hc1, .slice hp2 hi.n.rows.length hc2, .slice hp3 hi.n.kids.length hc3, .bool hi.n.leaf]] W.drew (JPost2 K B W.drew nb c (.slice (some ⟨nb, 0, none⟩) P.length nc) fv0 P SF lo (joinedP lo.n b hi.n))) := Lib.hid (by
    have := joined_calls K B W.drew nb c d nc P.length fv0 P SF lo hi b (HO.out.below hd) rfl (Nat.le_trans HBW.out hd.size) HLO.out HHI.out hcd hs1 hs2 hs3
    rw [e1, e2, e3, f1, f2, f3] at this
    exact this)
  have hloo := HO.out.ns.each lo (List.mem_of_getElem? HLO.out)
  have v1 : (Value.slice lp1 lo.n.keys.length lc1).ownBlock ≠ some nb := by rw [← e1]; exact fun e => (own_apart hloo.1 HO.out.ns.row (by decide)).elim (fun h => by rw [h] at e; cases e) (fun h => h (by rw [e]; rfl))
  have v2 : (Value.slice lp1 lo.n.keys.length lc1).ownBlock ≠ some tb := by rw [← e1]; exact not_own hloo.1 HT.out (by decide)
  have v3 : (Value.slice lp1 lo.n.keys.length lc1).ownBlock ≠ some w.heap.size := by rw [← e1]; exact not_own hloo.1 HP.out (by decide)
  have v4 : (Value.slice lp1 lo.n.keys.length lc1).ownBlock ≠ some kg := by
    rw [← e1]
    rcases HO.out.ns.ks c i lo x HLO.out HX.out hci with h9 | h9
    · rw [h9]; exact fun e => by cases e
    · intro e; exact h9 (by rw [e, HEK.out]; rfl)
  clear hloo
  rw [e1] at a0
  rw [e2] at a1
  rw [e3] at a2
  rw [f1] at d0
  rw [f2] at d1
  rw [f3] at d2
  have k7 : (c : Int) < (P.length : Int) := by omega
  have k8 : (0 : Int) ≤ (c : Int) := by omega
  have k9 : (d : Int) < (P.length : Int) := by omega
  have k10 : (0 : Int) ≤ (d : Int) := by omega
  have k11 : (0 : Int) ≤ (k' : Int) := by omega
  obtain ⟨jn, hjn⟩ : ∃ jn, joinedP lo.n b hi.n = jn := ⟨_, rfl⟩
  rw [hjn] at HJ HFR
  have HE1 := Lib.hid e1
  have HE2 := Lib.hid e2
  have HE3 := Lib.hid e3
  clear e1 e2 e3 f1 f2 f3 hd hjn
  obtain ⟨C0, hC0⟩ : ∃ C0 : World → Prop, ∀ w9, C0 w9 ↔ (w9.cell? ⟨tb, 0, none⟩ = some (.slice (some ⟨nb, 0, none⟩) P.length nc) ∧ w9.cell? ⟨nb, i * 4, none⟩ = some (.slice (some ⟨kg, 0, none⟩) LK kc) ∧ w9.cell? ⟨kg, k', none⟩ = some (.string (K.s b)) ∧ w9.cell? ⟨w.heap.size, 1, none⟩ = some (.int .i64 k') ∧ w9.cell? ⟨nb, c * 4, none⟩ = some (.slice lp1 lo.n.keys.length lc1) ∧ w9.cell? ⟨nb, c * 4 + 1, none⟩ = some (.slice lp2 lo.n.rows.length lc2) ∧ w9.cell? ⟨nb, c * 4 + 2, none⟩ = some (.slice lp3 lo.n.kids.length lc3) ∧ w9.cell? ⟨nb, c * 4 + 3, none⟩ = some (.bool lo.n.leaf) ∧ w9.cell? ⟨nb, d * 4, none⟩ = some (.slice hp1 hi.n.keys.length hc1) ∧ w9.cell? ⟨nb, d * 4 + 1, none⟩ = some (.slice hp2 hi.n.rows.length hc2) ∧ w9.cell? ⟨nb, d * 4 + 2, none⟩ = some (.slice hp3 hi.n.kids.length hc3) ∧ w9.cell? ⟨nb, d * 4 + 3, none⟩ = some (.bool hi.n.leaf)) := ⟨_, fun _ => Iff.rfl⟩
  have hCd : C0 W.drew := (hC0 _).2 ⟨h0, x0, m3, p1', a0, a1, a2, a3, d0, d1, d2, d3⟩
  have hpost : ∀ (v : Value) (w6 : World), JPost2 K B W.drew nb c (.slice (some ⟨nb, 0, none⟩) P.length nc) fv0 P SF lo jn (.returned v) w6 → C0 w6 := by
    rintro v w6 ⟨yp1, yc1, yp2, yc2, yp3, yc3, -, yk, yf, ysz, -, -⟩
    rw [HE1.out] at yk
    exact (hC0 _).2 ⟨yk _ _ _ v2 hlt h0, yk _ _ _ v1 hnl x0, yk _ _ _ v4 hkglt m3, yk _ _ _ v3 hlp p1', yk _ _ _ v1 hnl a0, yk _ _ _ v1 hnl a1, yk _ _ _ v1 hnl a2, yk _ _ _ v1 hnl a3, yk _ _ _ v1 hnl d0, yk _ _ _ v1 hnl d1, yk _ _ _ v1 hnl d2, yk _ _ _ v1 hnl d3⟩
  have c0 : ∀ p : Among C0, p.w.cell? ⟨tb, 0, none⟩ = some (.slice (some ⟨nb, 0, none⟩) P.length nc) := fun p => ((hC0 _).1 p.ok).1
  have c1 : ∀ p : Among C0, p.w.cell? ⟨nb, i * 4, none⟩ = some (.slice (some ⟨kg, 0, none⟩) LK kc) := fun p => ((hC0 _).1 p.ok).2.1
  have c2 : ∀ p : Among C0, p.w.cell? ⟨kg, k', none⟩ = some (.string (K.s b)) := fun p => ((hC0 _).1 p.ok).2.2.1
  have c3 : ∀ p : Among C0, p.w.cell? ⟨w.heap.size, 1, none⟩ = some (.int .i64 k') := fun p => ((hC0 _).1 p.ok).2.2.2.1
  have c4 : ∀ p : Among C0, p.w.cell? ⟨nb, c * 4, none⟩ = some (.slice lp1 lo.n.keys.length lc1) := fun p => ((hC0 _).1 p.ok).2.2.2.2.1
  have c5 : ∀ p : Among C0, p.w.cell? ⟨nb, c * 4 + 1, none⟩ = some (.slice lp2 lo.n.rows.length lc2) := fun p => ((hC0 _).1 p.ok).2.2.2.2.2.1
  have c6 : ∀ p : Among C0, p.w.cell? ⟨nb, c * 4 + 2, none⟩ = some (.slice lp3 lo.n.kids.length lc3) := fun p => ((hC0 _).1 p.ok).2.2.2.2.2.2.1
  have c7 : ∀ p : Among C0, p.w.cell? ⟨nb, c * 4 + 3, none⟩ = some (.bool lo.n.leaf) := fun p => ((hC0 _).1 p.ok).2.2.2.2.2.2.2.1
  have c8 : ∀ p : Among C0, p.w.cell? ⟨nb, d * 4, none⟩ = some (.slice hp1 hi.n.keys.length hc1) := fun p => ((hC0 _).1 p.ok).2.2.2.2.2.2.2.2.1
  have c9 : ∀ p : Among C0, p.w.cell? ⟨nb, d * 4 + 1, none⟩ = some (.slice hp2 hi.n.rows.length hc2) := fun p => ((hC0 _).1 p.ok).2.2.2.2.2.2.2.2.2.1
  have c10 : ∀ p : Among C0, p.w.cell? ⟨nb, d * 4 + 2, none⟩ = some (.slice hp3 hi.n.kids.length hc3) := fun p => ((hC0 _).1 p.ok).2.2.2.2.2.2.2.2.2.2.1
  have c11 : ∀ p : Among C0, p.w.cell? ⟨nb, d * 4 + 3, none⟩ = some (.bool hi.n.leaf) := fun p => ((hC0 _).1 p.ok).2.2.2.2.2.2.2.2.2.2.2
  have hinh : Nonempty (Among C0) := ⟨⟨_, hCd⟩⟩
  refine wp_region_call 27 29 #[.tmp 47, .tmp 55, .tmp 62] 72 rfl rfl (by kernel_rfl) (by kernel_rfl) (fun v => by kernel_rfl) (fun a => ?hrun) (fun w9 => ∃ p : Among C0, w9 = p.w) #[.agg #[.slice lp1 lo.n.keys.length lc1, .slice lp2 lo.n.rows.length lc2, .slice lp3 lo.n.kids.length lc3, .bool lo.n.leaf], .string (K.s b), .agg #[.slice hp1 hi.n.keys.length hc1, .slice hp2 hi.n.rows.length hc2, .slice hp3 hi.n.kids.length hc3, .bool hi.n.leaf]] (fun v w6 => JPost2 K B W.drew nb c (.slice (some ⟨nb, 0, none⟩) P.length nc) fv0 P SF lo jn (.returned v) w6) ⟨⟨_, hCd⟩, rfl⟩ (fun v w6 hp => ⟨⟨w6, hpost v w6 hp⟩, rfl⟩) (HJ.out.mono ?hc) ?_
  case hrun =>
    simp [go_sem]
  case hc =>
    rintro e w6 ⟨yp1, yc1, yp2, yc2, yp3, yc3, rfl, hrest⟩
    exact ⟨_, rfl, yp1, yc1, yp2, yc2, yp3, yc3, rfl, hrest⟩
  rintro v w6 ⟨yp1, yc1, yp2, yc2, yp3, yc3, hv, yk, yf, ysz, hyo, hys⟩
  obtain rfl : v = _ := by injection hv
  clear HJ
  simp only [opsV, List.set_cons_succ, List.set_cons_zero]
  (repeat (first | go_big_quiet_skip | quiet_step (fail)))
  refine wpQuiet_nil ?_
  rw [HE1.out] at yk
  have y0 := yk _ _ _ v1 hnl a0
  have y1 := yk _ _ _ v1 hnl a1
  have y2 := yk _ _ _ v1 hnl a2
  have y3 := yk _ _ _ v1 hnl a3
  have z0 := yf (c * 4)
  have z1 := yf (c * 4 + 1)
  have z2 := yf (c * 4 + 2)
  have z3 := yf (c * 4 + 3)
  have ynl : Lt nb w6.heap.size := Nat.lt_of_lt_of_le hnl ysz
  refine ⟨by simp [Act.eval], ((((w6.setCell ⟨nb, c * 4, none⟩ (.slice yp1 jn.keys.length yc1)).setCell ⟨nb, c * 4 + 1, none⟩ (.slice yp2 jn.rows.length yc2)).setCell ⟨nb, c * 4 + 2, none⟩ (.slice yp3 jn.kids.length yc3)).setCell ⟨nb, c * 4 + 3, none⟩ (.bool jn.leaf)), ?_, ?_⟩
  · clear yk yf c0 c1 c2 c3 c4 c5 c6 c7 c8 c9 c10 c11
    go_simp
  clear c0 c1 c2 c3 c4 c5 c6 c7 c8 c9 c10 c11 hinh hCd hpost hC0 yk yf ysz y0 y1 y2 y3 z0 z1 z2 z3 a0 a1 a2 a3 d0 d1 d2 d3 v1 v2 v3 v4 m3
  go_wp2_with fail
  have hstep := (step_of (nw_drew (Below.refl W.heap.size W)) HBW.out).trans hys.out
  refine wp_cut (fun W2 => Hid (OwnT K B W2 (.slice (some ⟨nb, 0, none⟩) P.length nc) fv0 (P.set c ⟨.slice yp1 jn.keys.length yc1, .slice yp2 jn.rows.length yc2, .slice yp3 jn.kids.length yc3, jn⟩) SF) ∧ Hid (Blc W2 tb 25 #[.slice (some ⟨nb, 0, none⟩) P.length nc, .int .i64 SR, fv]) ∧ Hid (Blc W2 w.heap.size 82 #[.int .i64 i, .int .i64 k']) ∧ Hid (StepT B tb w W2) ∧ Hid (B ≤ W2.heap.size)) ?_ ?_
  · exact ⟨hyo, Lib.hid (hstep.blc HT.out (by decide) (by decide) (by decide)), Lib.hid (hstep.blc HP.out (by decide) (by decide) (by decide)), Lib.hid (HS.out.trans (hstep.toT tb)), Lib.hid (Nat.le_trans HBW.out hstep.1.size)⟩
  clear hstep hyo hys HO HT HP HS HBW h0 p1' hlt hlp x0 hnl ynl
  rintro W2 ⟨HO, HT, HP, HS, HBW⟩
  have hx2 : (P.set c ⟨.slice yp1 jn.keys.length yc1, .slice yp2 jn.rows.length yc2, .slice yp3 jn.kids.length yc3, jn⟩)[i]? = some x := by rw [List.getElem?_set_ne hci]; exact HX.out
  have hlen2 : (P.set c ⟨.slice yp1 jn.keys.length yc1, .slice yp2 jn.rows.length yc2, .slice yp3 jn.kids.length yc3, jn⟩).length = P.length := List.length_set
  have HQ1 : Hid (ndsOf (P.set c ⟨.slice yp1 jn.keys.length yc1, .slice yp2 jn.rows.length yc2, .slice yp3 jn.kids.length yc3, jn⟩) = (ndsOf P).set c jn) := Lib.hid (by rw [ndsOf, List.map_set]; rfl)
  generalize P.set c ⟨.slice yp1 jn.keys.length yc1, .slice yp2 jn.rows.length yc2, .slice yp3 jn.kids.length yc3, jn⟩ = Q1 at *
  have p1' := HP.out.cell 1
  have hlp : Lt w.heap.size W2.heap.size := HP.out.lt
  simp only [List.getElem?_toArray, List.getElem?_cons_succ, List.getElem?_cons_zero] at p1'
  obtain ⟨x0, -, -, -, qf, hnl, -⟩ := node_cells HO.out hlen2 hx2
  rw [HEK.out] at x0
  have hzf := qf (i * 4)
  have hd := nw_drew (Below.refl W2.heap.size W2)
  have HDK : Hid (Calls Tryz.prog 52 #[.slice (some ⟨kg, 0, none⟩) LK kc, .int .i64 k', .int .i64 ((k' : Int) + 1)] W2.drew (DelKPost K B W2.drew nb i LK kc k' (some ⟨kg, 0, none⟩) (.slice (some ⟨nb, 0, none⟩) P.length nc) fv0 Q1 SF x)) :=
    Lib.hid (delK_calls K B W2.drew nb i P.length nc kc k' LK (some ⟨kg, 0, none⟩) fv0 Q1 SF x (HO.out.below hd) hlen2 hx2 (Nat.le_trans HBW.out hd.size) hkk HLK.out HEK.out)
  clear qf hd
  go_cut [65, 66, 67, 68, 69, 70, 71, 72, 73, 74, 75, 76, 77] (fun s65 s66 s67 s68 s69 s70 s71 s72 s73 s74 s75 s76 s77 wx => ∃ (u : Value), Hid (OwnT K B wx (.slice (some ⟨nb, 0, none⟩) P.length nc) fv0 (Q1.set i ⟨u, x.rv, x.cv, ⟨delAt x.n.keys k', x.n.rows, x.n.kids, x.n.leaf⟩⟩) SF) ∧ Hid (Step B W2 wx))
  case first =>
    go_region_with (first | (go_at_call 52; refine HDK.out.mono ?_; rintro e w6 ⟨up, uc, rfl, hc0, hf0, hlt6, ho6, hs6⟩))
    all_goals
      go_wp2
      go_meet
      as_aux_lemma =>
      exact ⟨_, ho6, Lib.hid ((step_of (nw_drew (Below.refl W2.heap.size W2)) HBW.out).trans hs6.out)⟩
  case rest =>
  obtain ⟨u, HO6, HS6⟩ := hcut
  have HP6 := Lib.hid (HS6.out.blc HP.out (by decide) (by decide) (by decide))
  have HT6 := Lib.hid (HS6.out.blc HT.out (by decide) (by decide) (by decide))
  have HSS := Lib.hid (HS.out.trans (HS6.out.toT tb))
  have HB6 := Lib.hid (Nat.le_trans HBW.out HS6.out.1.size)
  clear HO HT HP HS HBW HS6 HDK x0 hzf hnl p1' hlp
  obtain ⟨z1, hz1⟩ : ∃ z1 : Nv α, z1 = ⟨u, x.rv, x.cv, ⟨delAt x.n.keys k', x.n.rows, x.n.kids, x.n.leaf⟩⟩ := ⟨_, rfl⟩
  rw [← hz1] at HO6
  have hz1n : z1.n = ⟨delAt x.n.keys k', x.n.rows, x.n.kids, x.n.leaf⟩ := by rw [hz1]
  have hz1c : z1.cv = .slice (some ⟨cg, 0, none⟩) LC cc := by rw [hz1]; exact HEC.out
  clear hz1
  have hlen3 : (Q1.set i z1).length = P.length := by rw [List.length_set]; exact hlen2
  have hg1 : (Q1.set i z1)[i]? = some z1 := by rw [List.getElem?_set_self (by omega)]
  have HQ2 : Hid (ndsOf (Q1.set i z1) = (ndsOf Q1).set i z1.n) := Lib.hid (by rw [ndsOf, List.map_set]; rfl)
  generalize Q1.set i z1 = Q2 at *
  have HZ1N := Lib.hid hz1n
  obtain ⟨-, -, q2, -, qf, hnl, -⟩ := node_cells HO6.out hlen3 hg1
  have hzf := qf (i * 4 + 2)
  rw [hz1c] at q2
  have p1' := HP6.out.cell 1
  have hlp : Lt w.heap.size wc.heap.size := HP6.out.lt
  simp only [List.getElem?_toArray, List.getElem?_cons_succ, List.getElem?_cons_zero] at p1'
  have hd := nw_drew (Below.refl wc.heap.size wc)
  have hkl2 : z1.n.kids.length = LC := by rw [hz1n]; exact HLC.out
  have HDC : Hid (Calls Tryz.prog 53 #[.slice (some ⟨cg, 0, none⟩) LC cc, .int .i64 ((k' : Int) + 1), .int .i64 ((k' : Int) + 2)] wc.drew (DelCPost K B wc.drew nb i LC cc (k' + 1) (some ⟨cg, 0, none⟩) (.slice (some ⟨nb, 0, none⟩) P.length nc) fv0 Q2 SF z1)) :=
    Lib.hid (delC_calls K B wc.drew nb i P.length nc cc k' LC (some ⟨cg, 0, none⟩) fv0 Q2 SF z1 (HO6.out.below hd) hlen3 hg1 (Nat.le_trans HB6.out hd.size) hkl hkl2 hz1c)
  clear qf hd hkl2 hz1c hz1n
  go_wp2_with fail
  go_cut [78, 79, 80, 81, 82, 83, 84, 85, 86, 87, 88, 89, 90, 91] (fun s78 s79 s80 s81 s82 s83 s84 s85 s86 s87 s88 s89 s90 s91 wx => ∃ (u : Value), Hid (OwnT K B wx (.slice (some ⟨nb, 0, none⟩) P.length nc) fv0 (Q2.set i ⟨z1.kv, z1.rv, u, ⟨z1.n.keys, z1.n.rows, delAt z1.n.kids (k' + 1), z1.n.leaf⟩⟩) SF) ∧ Hid (Step B wc wx))
  case first =>
    go_region_with (first | (go_at_call 53; refine HDC.out.mono ?_; rintro e w6 ⟨up, uc, rfl, hc0, hf0, hlt6, ho6, hs6⟩))
    all_goals
      go_wp2
      go_meet
      as_aux_lemma =>
      exact ⟨_, ho6, Lib.hid ((step_of (nw_drew (Below.refl wc.heap.size wc)) HB6.out).trans hs6.out)⟩
  case rest =>
  obtain ⟨u2, HO7, HS7⟩ := hcut
  have HT7 := Lib.hid (HS7.out.blc HT6.out (by decide) (by decide) (by decide))
  have HP7 := Lib.hid (HS7.out.blc HP6.out (by decide) (by decide) (by decide))
  have HSS7 := Lib.hid (HSS.out.trans (HS7.out.toT tb))
  have HB7 := Lib.hid (Nat.le_trans HB6.out HS7.out.1.size)
  have HTS := Lib.hid (show TreeS K B tb wc ⟨((ndsOf P).set c jn).set i ⟨delAt x.n.keys k', x.n.rows, delAt x.n.kids (k' + 1), x.n.leaf⟩, SR, SF, SA⟩ from ⟨_, _, fv0, fv, by
    show ndsOf (Q2.set i _) = _
    rw [ndsOf, List.map_set]
    show (ndsOf Q2).set i _ = _
    rw [HQ2.out, List.set_set, HQ1.out, HZ1N.out], HO7.out, HFV.out, HT7.out⟩)
  clear HO6 HP6 HT6 HSS HB6 HS7 HDC q2 hzf hnl p1' hlp HO7 HT7 HQ1 HQ2 HZ1N hg1 hlen3 hlen2 hx2
  go_upto_region 8 with (first | (go_at_call 55; refine (free_any K B tb wc _ S2 d HTS.out HB7.out HFR.out).mono ?_; rintro e w7 ⟨rfl, hts7, hst7⟩))
  have HTS7 := Lib.hid hts7
  obtain ⟨P7, v7, fv07, fv7, hnd7, hot7, hfv7, htb7⟩ := hts7
  obtain ⟨y7, hy7, hy7n⟩ := nds_some hnd7 HYN.out
  subst hy7n
  obtain ⟨nb7, nc7, ev7, -, -, -, -⟩ := own_pos hot7.ns.row (by have := (List.getElem?_eq_some_iff.1 hy7).1; omega)
  subst ev7
  obtain ⟨yp1, yc1, yp2, yc2, yp3, yc3, e1, e2, e3⟩ := node_forms (hot7.ns.each y7 (List.mem_of_getElem? hy7))
  obtain ⟨a0, a1, a2, a3, -, hnl7, hcl7⟩ := node_cells hot7 rfl hy7
  rw [e1] at a0
  rw [e2] at a1
  rw [e3] at a2
  have h0 := htb7.cell 0
  have hlt : Lt tb w7.heap.size := htb7.lt
  simp only [List.getElem?_toArray, List.getElem?_cons_zero] at h0
  have k7 : (c : Int) < (P7.length : Int) := by omega
  have k8 : (0 : Int) ≤ (c : Int) := by omega
  have hpl : ¬ w.heap.size = tb := fun e => hnet e.symm
  have HP8 : Hid (Blc w7 w.heap.size 82 #[.int .i64 i, .int .i64 k']) := Lib.hid (hst7.blc _ _ _ HP7.out hpl (by decide) (by decide) (by decide))
  have HS8 := Lib.hid (HSS7.out.trans hst7)
  have HB8 : Hid (B ≤ w7.heap.size) := Lib.hid (Nat.le_trans HB7.out hst7.size)
  have HLAST2 := Lib.hid HLAST.out
  clear hnd7 hot7 hfv7 htb7 hst7 e1 e2 e3 HTS HSS7 HB7 HP7 hcl7 HLAST
  cases hov : overN y7.n with
  | false =>
    have HOV : Hid (overB y7.n.keys.length = false) := Lib.hid hov
    have HSQ : Hid (S2 = S') := Lib.hid (by have := HLAST2.out; rw [hov] at this; simpa using this)
    go_wp2_with (first | (go_at_call 49; refine (isOver_any _ _ _ _ _ _ _).mono ?_; rw [HOV.out]; rintro e w8 ⟨rfl, hb8⟩; obtain ⟨n8, es8, rfl⟩ := below_more hb8; clear hb8))
    go_end0
    as_aux_lemma =>
    rw [← HSQ.out]
    exact ⟨rfl, HTS7.out.below (by (repeat (first | exact Below.refl _ _ | assumption | refine nw_more ?_ _ _ | refine nw_alloc ?_ _ | refine nw_drew ?_ | refine nw_drewN ?_ _ | refine nw_set ?_ (by first | (simp; done) | (simp; omega) | omega) _))), HS8.out.then (by (repeat (first | exact Below.refl _ _ | assumption | refine nw_more ?_ _ _ | refine nw_alloc ?_ _ | refine nw_drew ?_ | refine nw_drewN ?_ _ | refine nw_set ?_ (by first | (simp; done) | (simp; omega) | omega) _)))⟩
  | true =>
    have HOV : Hid (overB y7.n.keys.length = true) := Lib.hid hov
    have HSP : Hid (splitP S2 i k' = some S') := Lib.hid (by have := HLAST2.out; rw [hov] at this; simpa using this)
    have b0 := HP8.out.cell 0
    have b1 := HP8.out.cell 1
    have hlp : Lt w.heap.size w7.heap.size := HP8.out.lt
    simp only [List.getElem?_toArray, List.getElem?_cons_succ, List.getElem?_cons_zero] at b0 b1
    go_wp2_with (first | (go_at_call 49; refine (isOver_any _ _ _ _ _ _ _).mono ?_; rw [HOV.out]; rintro e w8 ⟨rfl, hb8⟩; obtain ⟨n8, es8, rfl⟩ := below_more hb8; clear hb8) | (go_at_call 50; refine (split_any K B tb _ S2 S' i k' (HTS7.out.below (by (repeat (first | exact Below.refl _ _ | assumption | refine nw_more ?_ _ _ | refine nw_alloc ?_ _ | refine nw_drew ?_ | refine nw_drewN ?_ _ | refine nw_set ?_ (by first | (simp; done) | (simp; omega) | omega) _)))) (Nat.le_trans HB8.out (by simp)) HSP.out).mono ?_; rintro e w9 ⟨rfl, hts9, hst9⟩))
    go_end0
    as_aux_lemma =>
    exact ⟨rfl, hts9, (HS8.out.then (by (repeat (first | exact Below.refl _ _ | assumption | refine nw_more ?_ _ _ | refine nw_alloc ?_ _ | refine nw_drew ?_ | refine nw_drewN ?_ _ | refine nw_set ?_ (by first | (simp; done) | (simp; omega) | omega) _)))).trans hst9⟩
end Go.Proofs.YtaophiknldkfdaaGreatDoor
