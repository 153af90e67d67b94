/- PendBack returns true. No condition. -/
import Derived.Test.YtaalfmpajfpliaaPdK
import Derived.Deep.DeepCutAuto
import Derived.Deep.CutBlock
import Derived.Deep.CutRange
namespace Go.Proofs.Ytaalfmpajfpliaa
open Go.RowKit

/-- What the law holds in memory: its argument's block, x, y. -/
structure St (w wr : World) (xb yb : Nat) (cs : Array Value) (ux vx uy vy : Value) (l : List Wr) (ms : List Int) (L : List Wr) (M : List Int) : Prop where
  below : Below w.heap.size w wr
  box : Blc wr w.heap.size 28 cs
  blx : Blc wr xb 25 #[ux, vx]
  bly : Blc wr yb 25 #[uy, vy]
  ox : OwnW w.heap.size wr ux l
  nx : OwnN w.heap.size wr vx (ms ++ [(l.length : Int)])
  oy : OwnW w.heap.size wr uy L
  ny : OwnN w.heap.size wr vy M
  bk : Bk l ms L M
theorem St.on {w wr wx : World} {xb yb : Nat} {cs : Array Value} {ux vx uy vy : Value} {l : List Wr} {ms : List Int} {L : List Wr} {M : List Int} (h : St w wr xb yb cs ux vx uy vy l ms L M) (hb : Below wr.heap.size wr wx) : St w wx xb yb cs ux vx uy vy l ms L M :=
  ⟨nw_trans h.below hb, h.box.below hb, h.blx.below hb, h.bly.below hb, h.ox.below hb, h.nx.below hb, h.oy.below hb, h.ny.below hb, h.bk⟩
/-- A variable that holds what is pending. -/
structure Vb (w wr : World) (wb : Nat) (uw vw : Value) (l : List Wr) (ms : List Int) (L : List Wr) (M : List Int) : Prop where
  blk : Blc wr wb 25 #[uw, vw]
  o : OwnW w.heap.size wr uw L
  n : OwnN w.heap.size wr vw M
  bk : Bk l ms L M
theorem Vb.on {w wr wx : World} {wb : Nat} {uw vw : Value} {l : List Wr} {ms : List Int} {L : List Wr} {M : List Int} (h : Vb w wr wb uw vw l ms L M) (hb : Below wr.heap.size wr wx) : Vb w wx wb uw vw l ms L M :=
  ⟨h.blk.below hb, h.o.below hb, h.n.below hb, h.bk⟩
/-- y is set anew. -/
theorem St.put {w wr : World} {xb yb wb : Nat} {cs : Array Value} {ux vx uy vy uw vw : Value} {l : List Wr} {ms : List Int} {L : List Wr} {M : List Int} {L' : List Wr} {M' : List Int} (h : St w wr xb yb cs ux vx uy vy l ms L M) (hv : Vb w wr wb uw vw l ms L' M') (h1 : w.heap.size < xb) (h2 : xb < yb) :
    St w ((wr.setCell ⟨yb, 0, none⟩ uw).setCell ⟨yb, 1, none⟩ vw) xb yb cs ux vx uw vw l ms L' M' := by
  have k1 := not_own h.ox h.bly (by decide)
  have k2 := not_own h.nx h.bly (by decide)
  have k3 := not_own hv.o h.bly (by decide)
  have k4 := not_own hv.n h.bly (by decide)
  refine ⟨nw_set (nw_set h.below (p := ⟨yb, 0, none⟩) (by show w.heap.size ≤ yb; omega) _) (p := ⟨yb, 1, none⟩) (by show w.heap.size ≤ yb; omega) _,
    (h.box.far (a := ⟨yb, 0, none⟩) (by show w.heap.size ≠ yb; omega) _).far (a := ⟨yb, 1, none⟩) (by show w.heap.size ≠ yb; omega) _,
    (h.blx.far (a := ⟨yb, 0, none⟩) (by show xb ≠ yb; omega) _).far (a := ⟨yb, 1, none⟩) (by show xb ≠ yb; omega) _,
    ?_, ownsRow_setCell_other (a := ⟨yb, 1, none⟩) (ownsRow_setCell_other (a := ⟨yb, 0, none⟩) h.ox k1 _) k1 _, ownsRow_setCell_other (a := ⟨yb, 1, none⟩) (ownsRow_setCell_other (a := ⟨yb, 0, none⟩) h.nx k2 _) k2 _, ownsRow_setCell_other (a := ⟨yb, 1, none⟩) (ownsRow_setCell_other (a := ⟨yb, 0, none⟩) hv.o k3 _) k3 _, ownsRow_setCell_other (a := ⟨yb, 1, none⟩) (ownsRow_setCell_other (a := ⟨yb, 0, none⟩) hv.n k4 _) k4 _, hv.bk⟩
  have := (h.bly.set 0 uw).set 1 vw
  simpa using this

/-- A cell of a later variable is set. -/
theorem St.far {w wr : World} {xb yb wb : Nat} {cs cw : Array Value} {ux vx uy vy : Value} {l : List Wr} {ms : List Int} {L : List Wr} {M : List Int} (h : St w wr xb yb cs ux vx uy vy l ms L M) (hw : Blc wr wb 25 cw) (h1 : w.heap.size < xb) (h2 : xb < yb) (h3 : yb < wb) (i : Nat) (u : Value) :
    St w (wr.setCell ⟨wb, i, none⟩ u) xb yb cs ux vx uy vy l ms L M :=
  ⟨nw_set h.below (p := ⟨wb, i, none⟩) (by show w.heap.size ≤ wb; omega) _,
    h.box.far (a := ⟨wb, i, none⟩) (by show w.heap.size ≠ wb; omega) _,
    h.blx.far (a := ⟨wb, i, none⟩) (by show xb ≠ wb; omega) _,
    h.bly.far (a := ⟨wb, i, none⟩) (by show yb ≠ wb; omega) _,
    ownsRow_setCell_other (a := ⟨wb, i, none⟩) h.ox (not_own h.ox hw (by decide)) _, ownsRow_setCell_other (a := ⟨wb, i, none⟩) h.nx (not_own h.nx hw (by decide)) _, ownsRow_setCell_other (a := ⟨wb, i, none⟩) h.oy (not_own h.oy hw (by decide)) _, ownsRow_setCell_other (a := ⟨wb, i, none⟩) h.ny (not_own h.ny hw (by decide)) _, h.bk⟩
theorem Vb.put {w wr : World} {ub wb : Nat} {uw vw c0 c1 : Value} {l : List Wr} {ms : List Int} {L : List Wr} {M : List Int} (h : Vb w wr ub uw vw l ms L M) (hw : Blc wr wb 25 #[c0, c1]) :
    Vb w ((wr.setCell ⟨wb, 0, none⟩ uw).setCell ⟨wb, 1, none⟩ vw) wb uw vw l ms L M := by
  have k3 := not_own h.o hw (by decide)
  have k4 := not_own h.n hw (by decide)
  refine ⟨?_, ownsRow_setCell_other (a := ⟨wb, 1, none⟩) (ownsRow_setCell_other (a := ⟨wb, 0, none⟩) h.o k3 _) k3 _, ownsRow_setCell_other (a := ⟨wb, 1, none⟩) (ownsRow_setCell_other (a := ⟨wb, 0, none⟩) h.n k4 _) k4 _, h.bk⟩
  have := (hw.set 0 uw).set 1 vw
  simpa using this

set_option maxRecDepth 100000 in
set_option maxHeartbeats 16000000 in
theorem pendBack_any (w : World) (u v av : Value) (N : Nat) (l : List Wr) (ms : List Int) (f : Nat → Ac) (hw : WsAt w u l) (hm : IntsBig w v ms) (ha : AcsAt w av N f) :
    Calls Try.prog 3 #[.agg #[u, v, av]] w fun e w' => e = .returned (.bool true) ∧ Below w.heap.size w w' := by
  obtain ⟨hnn, pm, mc, rfl, -, -⟩ := id hm
  have HH := Lib.hid (fun (w' : World) (hb : Below w.heap.size w w') => heavy10_any w' u av pm ms.length mc N l f hnn (hw.below hb) (ha.below hb))
  obtain ⟨pl, lc, rfl, -⟩ := hw.slice
  obtain ⟨pa, ac, rfl, hN, -⟩ := ha.at
  have HA := Lib.hid ha
  have HW := Lib.hid hw
  have HM := Lib.hid hm
  clear hw hm ha
  go_enter Try.func3, Try.ntmps3
  go_wp2_with fail
  refine (HH.out _ (by (repeat (first | exact Below.refl _ _ | assumption | refine nw_more ?_ _ _ | refine nw_alloc ?_ _ | refine nw_drew ?_ | refine nw_drewN ?_ _ | refine nw_set ?_ (by first | (simp; done) | (simp; omega) | omega) _)))).mono ?_
  rintro e w' ⟨b0, rfl, hI, hb⟩
  obtain ⟨n0, es0, rfl⟩ := below_more hb
  clear hb HH
  cases b0
  case true =>
    go_wp2
    go_ret
    exact ⟨rfl, by (repeat (first | exact Below.refl _ _ | assumption | refine nw_more ?_ _ _ | refine nw_alloc ?_ _ | refine nw_drew ?_ | refine nw_drewN ?_ _ | refine nw_set ?_ (by first | (simp; done) | (simp; omega) | omega) _))⟩
  case false =>
  have HMS : Hid (IntsAt w (.slice pm ms.length mc) ms) := Lib.hid (HM.out.small (by have := hI rfl; omega))
  clear hI HM
  go_wp2_with fail
  refine (rPend_any _ _ _ l ms (HW.out.below (by (repeat (first | exact Below.refl _ _ | assumption | refine nw_more ?_ _ _ | refine nw_alloc ?_ _ | refine nw_drew ?_ | refine nw_drewN ?_ _ | refine nw_set ?_ (by first | (simp; done) | (simp; omega) | omega) _)))) (HMS.out.below (by (repeat (first | exact Below.refl _ _ | assumption | refine nw_more ?_ _ _ | refine nw_alloc ?_ _ | refine nw_drew ?_ | refine nw_drewN ?_ _ | refine nw_set ?_ (by first | (simp; done) | (simp; omega) | omega) _))))).mono ?_
  obtain ⟨c, HOK⟩ : ∃ c, Hid (pOk l ms = c) := ⟨_, rfl⟩
  rw [HOK.out]
  rintro e w' ⟨rfl, hb⟩
  obtain ⟨n1, es1, rfl⟩ := below_more hb
  clear hb
  cases c
  case false =>
    go_wp2
    go_ret
    exact ⟨rfl, by (repeat (first | exact Below.refl _ _ | assumption | refine nw_more ?_ _ _ | refine nw_alloc ?_ _ | refine nw_drew ?_ | refine nw_drewN ?_ _ | refine nw_set ?_ (by first | (simp; done) | (simp; omega) | omega) _))⟩
  case true =>
  have hlm := (pOk_parts HOK.out).2.1
  have hll := (pOk_parts HOK.out).1
  by_cases h6 : ms.length < 6
  case neg =>
    have H66 : Hid ((ms.length : Int) = 6) := Lib.hid (by omega)
    go_wp2_with fail
    refine (save_full _ _ _ l ms (by omega) HOK.out (HW.out.below (by (repeat (first | exact Below.refl _ _ | assumption | refine nw_more ?_ _ _ | refine nw_alloc ?_ _ | refine nw_drew ?_ | refine nw_drewN ?_ _ | refine nw_set ?_ (by first | (simp; done) | (simp; omega) | omega) _)))) (HMS.out.below (by (repeat (first | exact Below.refl _ _ | assumption | refine nw_more ?_ _ _ | refine nw_alloc ?_ _ | refine nw_drew ?_ | refine nw_drewN ?_ _ | refine nw_set ?_ (by first | (simp; done) | (simp; omega) | omega) _))))).mono ?_
    unfold pdThree nilS
    (rintro e w' ⟨rfl, hb⟩; obtain ⟨n, es, rfl⟩ := below_more hb; clear hb)
    have k6 := H66.out
    go_wp2_with (first | (go_at_call 7; refine (num10_any _ _).mono ?_; rintro e w' ⟨rfl, rfl⟩) | (go_at_call 8; refine (wakes10_any _).mono ?_; (rintro e w' ⟨rfl, hb⟩; obtain ⟨n, es, rfl⟩ := below_more hb; clear hb)))
    go_ret
    exact ⟨rfl, by (repeat (first | exact Below.refl _ _ | assumption | refine nw_more ?_ _ _ | refine nw_alloc ?_ _ | refine nw_drew ?_ | refine nw_drewN ?_ _ | refine nw_set ?_ (by first | (simp; done) | (simp; omega) | omega) _))⟩
  case pos =>
  go_upto_region 3 with (fail)
  go_cut [3, 4, 5] (fun s3 s4 s5 wx => ∃ (xb : Nat) (ux vx : Value), s3 = .pointer (some ⟨xb, 0, none⟩) ∧ s4 = .int .i64 ms.length ∧ s5 = .int .i64 0 ∧ Hid (w.heap.size < xb) ∧ Hid (Below w.heap.size w wx) ∧ Hid (Blc wx w.heap.size 28 #[.slice pl l.length lc, .slice pm ms.length mc, .slice pa N ac]) ∧ Hid (Vb w wx xb ux vx l ms l (ms ++ [(l.length : Int)])))
  case first =>
    go_wp2_with fail
    refine (save_ok _ _ _ l ms h6 HOK.out (HW.out.below (by (repeat (first | exact Below.refl _ _ | assumption | refine nw_more ?_ _ _ | refine nw_alloc ?_ _ | refine nw_drew ?_ | refine nw_drewN ?_ _ | refine nw_set ?_ (by first | (simp; done) | (simp; omega) | omega) _)))) (HMS.out.below (by (repeat (first | exact Below.refl _ _ | assumption | refine nw_more ?_ _ _ | refine nw_alloc ?_ _ | refine nw_drew ?_ | refine nw_drewN ?_ _ | refine nw_set ?_ (by first | (simp; done) | (simp; omega) | omega) _))))).mono ?_
    rintro e w' ⟨u1, v1, rfl, hu1, hv1, hb⟩
    obtain ⟨p1, c1, rfl⟩ := hu1.slice
    obtain ⟨q1, d1, rfl⟩ := hv1.slice
    obtain ⟨n2, es2, rfl⟩ := below_more hb
    clear hb
    have hlen : (ms ++ [(l.length : Int)]).length = ms.length + 1 := by simp
    rw [hlen] at hv1 ⊢
    unfold pdThree
    go_wp2
    go_meet
    refine ⟨_, _, _, rfl, rfl, rfl, Lib.hid (by omega), Lib.hid (by (repeat (first | exact Below.refl _ _ | assumption | refine nw_more ?_ _ _ | refine nw_alloc ?_ _ | refine nw_drew ?_ | refine nw_drewN ?_ _ | refine nw_set ?_ (by first | (simp; done) | (simp; omega) | omega) _))), Lib.hid (by (repeat (first | exact Blc.newAt _ _ _ (by simp; done) | refine Blc.alloc ?_ _ | refine Blc.mre ?_ _ _))), Lib.hid ⟨by (repeat (first | exact Blc.newAt _ _ _ (by simp; done) | refine Blc.alloc ?_ _ | refine Blc.mre ?_ _ _)), ?_, ?_, Bk.start HOK.out h6⟩⟩
    · exact World.ownsRow.alloc (World.ownsRow.mono hu1 (by simp; omega)) _
    · exact World.ownsRow.alloc (World.ownsRow.mono hv1 (by simp; omega)) _
  case rest =>
  obtain ⟨xb, ux, vx, rfl, rfl, rfl, HXB, HB, HBOX, HVX⟩ := hcut
  have hx0 := HVX.out.blk.cell 0
  have hx1 := HVX.out.blk.cell 1
  have hlx : Lt xb wc.heap.size := HVX.out.blk.lt
  simp only [List.getElem?_toArray, List.getElem?_cons_succ, List.getElem?_cons_zero] at hx0 hx1
  obtain ⟨q1, d1, ev1⟩ := HVX.out.n.slice
  obtain ⟨p1, c1, eu1⟩ := HVX.out.o.slice
  rw [show (ms ++ [(l.length : Int)]).length = ms.length + 1 by simp] at ev1
  subst ev1 eu1
  go_upto_region 6 with (first | (go_at_call 7; refine (num10_any _ _).mono ?_; rintro e w' ⟨rfl, rfl⟩))
  go_cut [6] (fun s6 wx => ∃ (yb : Nat), s6 = .pointer (some ⟨yb, 0, none⟩) ∧ Hid (xb < yb) ∧ Hid (St w wx xb yb #[.slice pl l.length lc, .slice pm ms.length mc, .slice pa N ac] (.slice p1 l.length c1) (.slice q1 (ms.length + 1) d1) (.slice p1 l.length c1) (.slice q1 (ms.length + 1) d1) l ms l (ms ++ [(l.length : Int)])))
  case first =>
    go_wp2
    go_meet
    have hon : Below wc.heap.size wc (wc.alloc (Obj.cells #[.slice p1 l.length c1, .slice q1 (ms.length + 1) d1] 25)) := nw_alloc (Below.refl _ _) _
    refine ⟨_, rfl, Lib.hid hlx, Lib.hid ⟨nw_trans HB.out hon, HBOX.out.below hon, HVX.out.blk.below hon, Blc.new _ _ _, HVX.out.o.below hon, HVX.out.n.below hon, HVX.out.o.below hon, HVX.out.n.below hon, HVX.out.bk⟩⟩
  case rest =>
  obtain ⟨yb, rfl, HYB, HST⟩ := hcut
  clear hx0 hx1 hlx HB HBOX HVX
  go_wp2_with fail
  go_loopg [7] (N + 1) (fun g s7 wr => ∃ (k : Nat) (L : List Wr) (M : List Int) (uy vy : Value), k ≤ N ∧ g + k = N + 1 ∧ s7 = .int .i64 k ∧ Hid (St w wr xb yb #[.slice pl l.length lc, .slice pm ms.length mc, .slice pa N ac] (.slice p1 l.length c1) (.slice q1 (ms.length + 1) d1) uy vy l ms L M))
  case atStart => exact ⟨0, l, _, _, _, Nat.zero_le _, rfl, rfl, HST⟩
  case round =>
    clear HST
    obtain ⟨k, L, M, uy, vy, hk, hg, rfl, HST⟩ := hrel
    obtain rfl : gk = N + 1 - k := by omega
    clear hg
    have hz2 := HST.out.box.cell 2
    have hz1 := HST.out.box.cell 1
    have hlz : Lt w.heap.size wr.heap.size := HST.out.box.lt
    simp only [List.getElem?_toArray, List.getElem?_cons_succ, List.getElem?_cons_zero] at hz1 hz2
    by_cases hlt : k < N ∧ k < 20
    case neg =>
      by_cases hkN : k < N
      · have k1 : (k : Int) < (N : Int) := by omega
        have k2 : ¬ (k : Int) < 20 := by omega
        go_wp2_with (first | (go_at_call 8; refine (wakes10_any _).mono ?_; (rintro e w' ⟨rfl, hb⟩; obtain ⟨n, es, rfl⟩ := below_more hb; clear hb)))
        go_ret
        exact ⟨rfl, nw_trans HST.out.below (by (repeat (first | exact Below.refl _ _ | assumption | refine nw_more ?_ _ _ | refine nw_alloc ?_ _ | refine nw_drew ?_ | refine nw_drewN ?_ _ | refine nw_set ?_ (by first | (simp; done) | (simp; omega) | omega) _)))⟩
      · have k1 : ¬ (k : Int) < (N : Int) := by omega
        go_wp2_with (first | (go_at_call 8; refine (wakes10_any _).mono ?_; (rintro e w' ⟨rfl, hb⟩; obtain ⟨n, es, rfl⟩ := below_more hb; clear hb)))
        go_ret
        exact ⟨rfl, nw_trans HST.out.below (by (repeat (first | exact Below.refl _ _ | assumption | refine nw_more ?_ _ _ | refine nw_alloc ?_ _ | refine nw_drew ?_ | refine nw_drewN ?_ _ | refine nw_set ?_ (by first | (simp; done) | (simp; omega) | omega) _)))⟩
    case pos =>
    obtain ⟨hkN, hk20⟩ := hlt
    have k1 : (k : Int) < (N : Int) := by omega
    have k2 : (k : Int) < 20 := by omega
    obtain ⟨py, cy, rfl⟩ := HST.out.oy.slice
    obtain ⟨qy, dy, rfl⟩ := HST.out.ny.slice
    have hy0 := HST.out.bly.cell 0
    have hy1 := HST.out.bly.cell 1
    have hyf0 := HST.out.bly.free 0
    have hyf1 := HST.out.bly.free 1
    have hly : Lt yb wr.heap.size := HST.out.bly.lt
    simp only [List.getElem?_toArray, List.getElem?_cons_succ, List.getElem?_cons_zero] at hy0 hy1
    go_upto_block 2 with (fail)
    go_cut [8, 9, 53] (fun s8 s9 _ wx => ∃ (wb : Nat) (e : Int) (uw vw : Value) (L' : List Wr) (M' : List Int), s8 = .pointer (some ⟨wb, 0, none⟩) ∧ s9 = .int .i64 e ∧ Hid (yb < wb) ∧ Hid (Below wr.heap.size wr wx) ∧ Hid (e = 0 → Vb w wx wb uw vw l ms L' M'))
    case first =>
      by_cases h3 : (k : Int) % 3 = 2
      · go_wp2_with fail
        refine (save_any _ _ _ L M HST.out.bk.ok ((OwnW.ok HST.out.oy HST.out.bk.ok).below (by (repeat (first | exact Below.refl _ _ | assumption | refine nw_more ?_ _ _ | refine nw_alloc ?_ _ | refine nw_drew ?_ | refine nw_drewN ?_ _ | refine nw_set ?_ (by first | (simp; done) | (simp; omega) | omega) _)))) ((OwnN.ok HST.out.ny HST.out.bk.ok).below (by (repeat (first | exact Below.refl _ _ | assumption | refine nw_more ?_ _ _ | refine nw_alloc ?_ _ | refine nw_drew ?_ | refine nw_drewN ?_ _ | refine nw_set ?_ (by first | (simp; done) | (simp; omega) | omega) _))))).mono ?_
        rintro e w' ⟨p2, n2, c2, q2, m2, d2, i2, e2, rfl, ho, hb⟩
        obtain ⟨nn, es, rfl⟩ := below_more hb
        have HO := Lib.hid ho
        clear hb ho
        unfold pdThree
        go_wp2
        go_meet
        refine ⟨wr.heap.size, e2, .slice p2 n2 c2, .slice q2 m2 d2, L, M ++ [(L.length : Int)], rfl, rfl, Lib.hid HST.out.bly.lt, Lib.hid (by (repeat (first | exact Below.refl _ _ | assumption | refine nw_more ?_ _ _ | refine nw_alloc ?_ _ | refine nw_drew ?_ | refine nw_drewN ?_ _ | refine nw_set ?_ (by first | (simp; done) | (simp; omega) | omega) _))), Lib.hid (fun he => ?_)⟩
        obtain ⟨hm6, hu, hv⟩ := HO.out he
        refine ⟨by (repeat (first | exact Blc.newAt _ _ _ (by simp; done) | refine Blc.alloc ?_ _ | refine Blc.mre ?_ _ _)), own_swap hu (by simp) ?_, own_swap hv (by simp) ?_, HST.out.bk.save hm6⟩
        · have := HST.out.box.lt; simp; omega
        · have := HST.out.box.lt; simp; omega
      · have h30 : (k : Int) % 3 = 0 ∨ (k : Int) % 3 = 1 := by omega
        clear h3
        obtain ⟨ab, aoff, an, at1, kk, s, g, rfl, hab, ha1, ha2, ha3, ha4, ha5, hsk, hsz⟩ := act_at (HA.out.below HST.out.below) hkN
        have i1 : (0 : Int) ≤ (k : Int) := by omega
        rcases h30 with h3 | h3
        all_goals
          go_upto_region 16 with (fail)
          go_region_held3 (fun w9 => w9.cell? ⟨yb, 0, none⟩ = some (.slice py L.length cy) ∧ w9.cell? ⟨yb, 1, none⟩ = some (.slice qy M.length dy) ∧ w9.cell? ⟨w.heap.size, 2, none⟩ = some (.slice (some ⟨ab, aoff, none⟩) N ac) ∧ w9.cell? ⟨ab, aoff + k * 6 + 2, none⟩ = some (.int .i64 at1) ∧ w9.cell? ⟨ab, aoff + k * 6 + 3, none⟩ = some (.string kk) ∧ w9.cell? ⟨ab, aoff + k * 6 + 4, none⟩ = some (.string s) ∧ w9.cell? ⟨ab, aoff + k * 6 + 5, none⟩ = some (.bool g)) (simp [go_sem, *]) (first | (go_at_call 9; refine (put_any _ _ _ L M at1 kk s g hsk hsz HST.out.bk.ok ((OwnW.ok HST.out.oy HST.out.bk.ok).below (by (repeat (first | exact Below.refl _ _ | assumption | refine nw_more ?_ _ _ | refine nw_alloc ?_ _ | refine nw_drew ?_ | refine nw_drewN ?_ _ | refine nw_set ?_ (by first | (simp; done) | (simp; omega) | omega) _)))) ((OwnN.ok HST.out.ny HST.out.bk.ok).below (by (repeat (first | exact Below.refl _ _ | assumption | refine nw_more ?_ _ _ | refine nw_alloc ?_ _ | refine nw_drew ?_ | refine nw_drewN ?_ _ | refine nw_set ?_ (by first | (simp; done) | (simp; omega) | omega) _))))).mono ?_; rintro e w' ⟨p2, n2, c2, q2, m2, d2, e2, rfl, ho, hb⟩; obtain ⟨nn, es, rfl⟩ := below_more hb; have HO := Lib.hid ho; clear hb ho; unfold pdTwo))
          all_goals
            go_wp2
            go_meet
            refine ⟨wr.heap.size, e2, .slice p2 n2 c2, .slice q2 m2 d2, L ++ [⟨at1, kk, s, g⟩], M, rfl, rfl, Lib.hid HST.out.bly.lt, Lib.hid (by (repeat (first | exact Below.refl _ _ | assumption | refine nw_more ?_ _ _ | refine nw_alloc ?_ _ | refine nw_drew ?_ | refine nw_drewN ?_ _ | refine nw_set ?_ (by first | (simp; done) | (simp; omega) | omega) _))), Lib.hid (fun he => ?_)⟩
            obtain ⟨hx, hl12, hu, hv⟩ := HO.out he
            refine ⟨by (repeat (first | exact Blc.newAt _ _ _ (by simp; done) | refine Blc.alloc ?_ _ | refine Blc.mre ?_ _ _)), own_swap hu (by simp) ?_, own_swap hv (by simp) ?_, HST.out.bk.put hx hl12⟩
            · have := HST.out.box.lt; simp; omega
            · have := HST.out.box.lt; simp; omega
    case rest =>
    obtain ⟨wb, e, uw, vw, L', M', rfl, rfl, HWB, HBW, HV⟩ := hcut
    have HST1 := Lib.hid (HST.out.on HBW.out)
    clear hz1 hz2 hlz hy0 hy1 hyf0 hyf1 hly HST HBW
    by_cases he0 : e = 0
    case neg =>
      have hne : (e == 0) = false := beq_eq_false_iff_ne.2 he0
      clear HV
      go_wp2_with (first | (go_at_call 7; refine (num10_any _ _).mono ?_; rintro e w' ⟨rfl, rfl⟩))
      go_roundg (N + 1 - k - 1)
      case measure => omega
      case rel => exact ⟨k + 1, L, M, _, _, by omega, by omega, by go_num, HST1⟩
    case pos =>
    have HW1 := Lib.hid (HV.out he0)
    subst he0
    clear HV
    go_upto_region 18 with (first | (go_at_call 7; refine (num10_any _ _).mono ?_; rintro e w' ⟨rfl, rfl⟩))
    go_cut [92] (fun s92 wx => ∃ d : Bool, s92 = .bool d ∧ Hid (d = true → ms.length + 1 < M'.length) ∧ wx = wc)
    case first =>
      obtain ⟨ab, aoff, an, at1, kk, s, g, rfl, hab, ha1, -, -, -, -, -, -⟩ := act_at (HA.out.below HST1.out.below) hkN
      have hz2 := HST1.out.box.cell 2
      have hlz : Lt w.heap.size wc.heap.size := HST1.out.box.lt
      have hlw : Lt wb wc.heap.size := HW1.out.blk.lt
      obtain ⟨qw, dw, ew⟩ := HW1.out.n.slice
      have hw1 := HW1.out.blk.cell 1
      rw [ew] at hw1
      simp only [List.getElem?_toArray, List.getElem?_cons_succ, List.getElem?_cons_zero] at hz2 hw1
      have i1 : (0 : Int) ≤ (k : Int) := by omega
      have HM6 := Lib.hid (pOk_parts HW1.out.bk.ok).2.1
      have wr1 : IntKind.i64.wrap ((ms.length : Int) + 1) = (ms.length : Int) + 1 := IntWalk.i64_in _ (by omega)
      have HL := Lib.hid ew
      clear ew
      by_cases hml : (ms.length : Int) + 1 < (M'.length : Int)
      · go_wp2
        all_goals
          go_meet
          exact ⟨_, rfl, Lib.hid (fun _ => by omega), rfl⟩
      · go_wp2
        all_goals
          go_meet
          exact ⟨false, rfl, Lib.hid (fun h => by cases h), rfl⟩
    case rest =>
    obtain ⟨d, rfl, HD, rfl⟩ := hcut
    go_upto_if 92 with (fail)
    go_cut [] (fun wx => ∃ (uw vw : Value) (L' : List Wr) (M' : List Int), Hid (St w wx xb yb #[.slice pl l.length lc, .slice pm ms.length mc, .slice pa N ac] (.slice p1 l.length c1) (.slice q1 (ms.length + 1) d1) (.slice py L.length cy) (.slice qy M.length dy) l ms L M) ∧ Hid (Vb w wx wb uw vw l ms L' M'))
    case first =>
      cases d
      case false =>
        go_wp2
        go_meet
        exact ⟨_, _, _, _, HST1, HW1⟩
      case true =>
        have hml := HD.out rfl
        obtain ⟨qw, dw, ew⟩ := HW1.out.n.slice
        obtain ⟨pw, cw, eu⟩ := HW1.out.o.slice
        subst ew eu
        have hw0 := HW1.out.blk.cell 0
        have hw1 := HW1.out.blk.cell 1
        have hlw : Lt wb wc.heap.size := HW1.out.blk.lt
        simp only [List.getElem?_toArray, List.getElem?_cons_succ, List.getElem?_cons_zero] at hw0 hw1
        have HM6 := Lib.hid (pOk_parts HW1.out.bk.ok).2.1
        have HC : Hid (wrap64 ((M'.length : Int) - 1) = ((M'.length - 1 : Nat) : Int)) := Lib.hid ((IntWalk.wrap64_in _ (by have := HM6.out; omega)).trans (by omega))
        go_upto_region 19 with (fail)
        go_cut [10, 11] (fun s10 s11 wx => ∃ (ub : Nat) (uu vu : Value), s10 = .pointer (some ⟨ub, 0, none⟩) ∧ s11 = .int .i64 0 ∧ Hid (Below wc.heap.size wc wx) ∧ Hid (Vb w wx ub uu vu l ms L' (M'.take (M'.length - 1))))
        case first =>
          go_wp2_with fail
          refine (release_of _ _ _ L' M' (M'.length - 1) _ HC.out (by omega) HW1.out.bk.ok ((OwnW.ok HW1.out.o HW1.out.bk.ok).below (by (repeat (first | exact Below.refl _ _ | assumption | refine nw_more ?_ _ _ | refine nw_alloc ?_ _ | refine nw_drew ?_ | refine nw_drewN ?_ _ | refine nw_set ?_ (by first | (simp; done) | (simp; omega) | omega) _)))) ((OwnN.ok HW1.out.n HW1.out.bk.ok).below (by (repeat (first | exact Below.refl _ _ | assumption | refine nw_more ?_ _ _ | refine nw_alloc ?_ _ | refine nw_drew ?_ | refine nw_drewN ?_ _ | refine nw_set ?_ (by first | (simp; done) | (simp; omega) | omega) _))))).mono ?_
          rintro e w' ⟨u2, v2, rfl, hu, hv, hb⟩
          obtain ⟨p2, c2, rfl⟩ := OwnW.slice hu
          obtain ⟨q2, d2, rfl⟩ := OwnN.slice hv
          obtain ⟨nn, es, rfl⟩ := below_more hb
          have HU := Lib.hid hu
          have HV := Lib.hid hv
          have hlt2 : (M'.take (M'.length - 1)).length = M'.length - 1 := by rw [List.length_take]; omega
          rw [hlt2] at HV ⊢
          clear hb hu hv hlt2
          unfold pdTwo
          go_wp2
          go_meet
          refine ⟨_, _, _, rfl, rfl, Lib.hid (by (repeat (first | exact Below.refl _ _ | assumption | refine nw_more ?_ _ _ | refine nw_alloc ?_ _ | refine nw_drew ?_ | refine nw_drewN ?_ _ | refine nw_set ?_ (by first | (simp; done) | (simp; omega) | omega) _))), Lib.hid ⟨by (repeat (first | exact Blc.newAt _ _ _ (by simp; done) | refine Blc.alloc ?_ _ | refine Blc.mre ?_ _ _)), ?_, ?_, HW1.out.bk.release (by omega)⟩⟩
          · exact World.ownsRow.alloc (World.ownsRow.mono HU.out (by have := HST1.out.box.lt; omega)) _
          · exact World.ownsRow.alloc (World.ownsRow.mono HV.out (by have := HST1.out.box.lt; omega)) _
        case rest =>
        obtain ⟨ub, uu, vu, rfl, rfl, HBW, HU⟩ := hcut
        have HST3 := Lib.hid (HST1.out.on HBW.out)
        have HW3 := Lib.hid (HW1.out.on HBW.out)
        obtain ⟨q2, d2, ev⟩ := HU.out.n.slice
        obtain ⟨p2, c2, eu⟩ := HU.out.o.slice
        rw [show (M'.take (M'.length - 1)).length = M'.length - 1 by rw [List.length_take]; omega] at ev
        subst ev eu
        clear HST1 HW1 HBW hw0 hw1 hlw HM6 HC
        have hu0 := HU.out.blk.cell 0
        have hlu := HU.out.blk.lt
        simp only [List.getElem?_toArray, List.getElem?_cons_zero] at hu0
        have hw0 := HW3.out.blk.cell 0
        simp only [List.getElem?_toArray, List.getElem?_cons_zero] at hw0
        have hlw := HW3.out.blk.lt
        go_wp2_with (first | (go_at_call 7; refine (num10_any _ _).mono ?_; rintro e w' ⟨rfl, rfl⟩))
        refine (eqWrites_same _ _ _ L' (OwnW.ok HU.out.o HU.out.bk.ok) (OwnW.ok HW3.out.o HW3.out.bk.ok)).mono ?_
        rintro e w2 ⟨rfl, hb⟩
        have HST4 := Lib.hid (HST3.out.on hb)
        have HW4 := Lib.hid (HW3.out.on hb)
        have HU4 := Lib.hid (HU.out.on hb)
        clear hu0 hlu hw0 hlw hb HST3 HW3 HU
        have hu0 := HU4.out.blk.cell 0
        have hu1 := HU4.out.blk.cell 1
        have hlu : Lt ub w2.heap.size := HU4.out.blk.lt
        have hw0 := HW4.out.blk.cell 0
        have hw1 := HW4.out.blk.cell 1
        have hwf0 := HW4.out.blk.free 0
        have hwf1 := HW4.out.blk.free 1
        have hlw : Lt wb w2.heap.size := HW4.out.blk.lt
        simp only [List.getElem?_toArray, List.getElem?_cons_succ, List.getElem?_cons_zero] at hu0 hu1 hw0 hw1
        go_wp2
        go_meet
        exact ⟨_, _, _, _, Lib.hid ((HST4.out.far HW4.out.blk HXB.out HYB.out HWB.out 0 _).far (HW4.out.blk.set 0 _) HXB.out HYB.out HWB.out 1 _), Lib.hid (HU4.out.put HW4.out.blk)⟩
    case rest =>
    obtain ⟨uw, vw, L', M', HST2, HW2⟩ := hcut
    clear HST1 HW1 HD
    obtain ⟨qw, dw, ew⟩ := HW2.out.n.slice
    obtain ⟨pw, cw, eu⟩ := HW2.out.o.slice
    subst ew eu
    have hw0 := HW2.out.blk.cell 0
    have hw1 := HW2.out.blk.cell 1
    have hlw : Lt wb wc.heap.size := HW2.out.blk.lt
    have hy0 := HST2.out.bly.cell 0
    have hy1 := HST2.out.bly.cell 1
    have hyf0 := HST2.out.bly.free 0
    have hyf1 := HST2.out.bly.free 1
    have hly : Lt yb wc.heap.size := HST2.out.bly.lt
    simp only [List.getElem?_toArray, List.getElem?_cons_succ, List.getElem?_cons_zero] at hw0 hw1 hy0 hy1
    have HST5 := Lib.hid (HST2.out.put HW2.out HXB.out HYB.out)
    go_upto_region 24 with (fail)
    generalize ((wc.setCell ⟨yb, 0, none⟩ (.slice pw L'.length cw)).setCell ⟨yb, 1, none⟩ (.slice qw M'.length dw)) = w5 at *
    clear hw0 hw1 hlw hy0 hy1 hyf0 hyf1 hly HST2 HW2
    have hy0 := HST5.out.bly.cell 0
    have hy1 := HST5.out.bly.cell 1
    have hly : Lt yb w5.heap.size := HST5.out.bly.lt
    have hx0 := HST5.out.blx.cell 0
    have hx1 := HST5.out.blx.cell 1
    have hlx : Lt xb w5.heap.size := HST5.out.blx.lt
    simp only [List.getElem?_toArray, List.getElem?_cons_succ, List.getElem?_cons_zero] at hy0 hy1 hx0 hx1
    have HMK := Lib.hid HST5.out.bk.mark
    have HSK := Lib.hid (Bk.start HOK.out h6).ok
    go_wp2_with fail
    refine (return_ok _ _ _ L' M' ms.length l.length HMK.out.1 HST5.out.bk.len.1 HST5.out.bk.ok (OwnW.ok HST5.out.oy HST5.out.bk.ok) (OwnN.ok HST5.out.ny HST5.out.bk.ok)).mono ?_
    rw [HMK.out.2.1, HMK.out.2.2]
    rintro e w' ⟨u2, v2, rfl, hu, hv, hb⟩
    have HU := Lib.hid (OwnW.ok hu HSK.out)
    have HV := Lib.hid (OwnN.ok hv HSK.out)
    obtain ⟨p2, c2, rfl⟩ := OwnW.slice hu
    obtain ⟨q2, d2, rfl⟩ := OwnN.slice hv
    obtain ⟨nn, es, rfl⟩ := below_more hb
    have hlen : (ms ++ [(l.length : Int)]).length = ms.length + 1 := by simp
    rw [hlen] at HV ⊢
    clear hb hu hv hlen
    unfold pdTwo
    go_wp2_with (first | (go_at_call 7; refine (num10_any _ _).mono ?_; rintro e w' ⟨rfl, rfl⟩))
    refine (eqPend_same _ _ _ _ _ l (ms ++ [(l.length : Int)]) (HU.out.below (by (repeat (first | exact Below.refl _ _ | assumption | refine nw_more ?_ _ _ | refine nw_alloc ?_ _ | refine nw_drew ?_ | refine nw_drewN ?_ _ | refine nw_set ?_ (by first | (simp; done) | (simp; omega) | omega) _)))) ((OwnW.ok HST5.out.ox HSK.out).below (by (repeat (first | exact Below.refl _ _ | assumption | refine nw_more ?_ _ _ | refine nw_alloc ?_ _ | refine nw_drew ?_ | refine nw_drewN ?_ _ | refine nw_set ?_ (by first | (simp; done) | (simp; omega) | omega) _)))) (HV.out.below (by (repeat (first | exact Below.refl _ _ | assumption | refine nw_more ?_ _ _ | refine nw_alloc ?_ _ | refine nw_drew ?_ | refine nw_drewN ?_ _ | refine nw_set ?_ (by first | (simp; done) | (simp; omega) | omega) _)))) ((OwnN.ok HST5.out.nx HSK.out).below (by (repeat (first | exact Below.refl _ _ | assumption | refine nw_more ?_ _ _ | refine nw_alloc ?_ _ | refine nw_drew ?_ | refine nw_drewN ?_ _ | refine nw_set ?_ (by first | (simp; done) | (simp; omega) | omega) _))))).mono ?_
    (rintro e w' ⟨rfl, hb⟩; obtain ⟨n, es, rfl⟩ := below_more hb; clear hb)
    go_wp2
    go_roundg (N + 1 - k - 1)
    case measure => omega
    case rel => exact ⟨k + 1, L', M', _, _, by omega, by omega, by go_num, Lib.hid (HST5.out.on (by (repeat (first | exact Below.refl _ _ | assumption | refine nw_more ?_ _ _ | refine nw_alloc ?_ _ | refine nw_drew ?_ | refine nw_drewN ?_ _ | refine nw_set ?_ (by first | (simp; done) | (simp; omega) | omega) _))))⟩
end Go.Proofs.Ytaalfmpajfpliaa
