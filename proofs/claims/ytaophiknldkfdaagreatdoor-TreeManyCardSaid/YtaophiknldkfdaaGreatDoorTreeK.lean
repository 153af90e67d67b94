/- Contracts of package tree: copied. -/
import Derived.Test.YtaophiknldkfdaaGreatDoorTreeJ2
namespace Go.Proofs.YtaophiknldkfdaaGreatDoor
open Go.RowKit

set_option maxRecDepth 100000 in
set_option maxHeartbeats 40000000 in
theorem copied_any {α : Type} (K : Ks α) (B : Nat) (w : World) (v u : Value) (r : Int) (P : List (Nv α)) (F : List Int) (h : NodesIn K B w v P) (hf : IntsIn B w u F) (hpl : P.length ≤ 1000) (hls : ∀ x ∈ P, x.n.keys.length ≤ 1000 ∧ x.n.rows.length ≤ 1000 ∧ x.n.kids.length ≤ 1000) :
    Calls Tryz.prog 26 #[.agg #[v, .int .i64 r, u]] w fun e w' => ∃ (nv fv : Value) (Q : List (Nv α)), e = .returned (.agg #[nv, .int .i64 r, fv]) ∧ OwnNs K w.heap.size w' nv Q ∧ ndsOf Q = ndsOf P ∧ OwnI w.heap.size w' fv F ∧ (∀ x ∈ Q, Sep fv x.rv ∧ Sep fv x.cv) ∧ Below w.heap.size w w' := by
  have HN := Lib.hid h
  have HF := Lib.hid hf
  obtain ⟨np, nc, rfl, -⟩ := h.slice
  obtain ⟨i0, hi, hz0, hz1, hz2⟩ := info_parts info_node
  have HI := Lib.hid hi
  clear h hi hf
  go_enter Tryz.func26, Tryz.ntmps26
  go_wp2_with fail
  go_cut [3, 10, 11] (fun s3 s10 s11 wx => ∃ (xb : Nat) (fv : Value), s3 = .pointer (some ⟨xb, 0, none⟩) ∧ Hid (w.heap.size + 2 ≤ xb) ∧ Hid (Blc wx (w.heap.size + 1) 25 #[.slice none 0 0, .int .i64 0, .slice none 0 0]) ∧ Hid (Below w.heap.size w wx) ∧ Hid (Blc wx w.heap.size 25 #[.slice np P.length nc, .int .i64 r, u]) ∧ Hid (Blc wx xb 25 #[.slice none 0 0, .int .i64 r, fv]) ∧ Hid (OwnI (w.heap.size + 2) wx fv F))
  case first =>
    go_region_held3 (fun w9 => w9.cell? ⟨w.heap.size, 1, none⟩ = some (.int .i64 r) ∧ w9.cell? ⟨w.heap.size, 2, none⟩ = some u) (simp [go_sem, *]) (first | (go_at_call 44; refine (clone_any _ u F ((HF.out.below (by (repeat (first | exact Below.refl _ _ | assumption | refine nw_more ?_ _ _ | refine nw_alloc ?_ _ | refine nw_drew ?_ | refine nw_drewN ?_ _ | refine nw_set ?_ (by first | (simp; done) | (simp; omega) | omega) _)))).toAt)).mono ?_; rintro e w' ⟨fv, rfl, hof, hb⟩; obtain ⟨n1, es1, rfl⟩ := below_more hb; clear hb; obtain ⟨fp, fc, rfl⟩ := hof.slice))
    · go_wp2
      go_meet
      refine ⟨_, _, rfl, Lib.hid (by omega), Lib.hid (((Blc.newAt _ _ _ (by simp)).mre _ _).alloc _), Lib.hid (by (repeat (first | exact Below.refl _ _ | assumption | refine nw_more ?_ _ _ | refine nw_alloc ?_ _ | refine nw_drew ?_ | refine nw_drewN ?_ _ | refine nw_set ?_ (by first | (simp; done) | (simp; omega) | omega) _))), Lib.hid ((((Blc.new w _ _).alloc _).mre _ _).alloc _), Lib.hid (Blc.newAt _ _ _ (by simp)), Lib.hid (World.ownsRow.alloc (own_swap hof (by simp [go_sem]) (by simp [go_sem])) _)⟩
    · go_wp2
      go_meet
      refine ⟨_, _, rfl, Lib.hid (by omega), Lib.hid (((Blc.newAt _ _ _ (by simp)).alloc _).mre _ _), Lib.hid (by (repeat (first | exact Below.refl _ _ | assumption | refine nw_more ?_ _ _ | refine nw_alloc ?_ _ | refine nw_drew ?_ | refine nw_drewN ?_ _ | refine nw_set ?_ (by first | (simp; done) | (simp; omega) | omega) _))), Lib.hid ((((Blc.new w _ _).alloc _).alloc _).mre _ _), Lib.hid (Blc.mre (Blc.newAt _ _ _ (by simp)) _ _), Lib.hid (own_swap hof (by simp [go_sem]) (by simp [go_sem]))⟩
  case rest =>
  obtain ⟨xb, fv, rfl, HXB, HR0, HB0, HT0, HX0, HFV0⟩ := hcut
  have ht0 := HT0.out.cell 0
  simp only [List.getElem?_toArray, List.getElem?_cons_zero] at ht0
  go_wp2_with fail
  go_loopg [15] (P.length + 1) (fun g s15 wr => ∃ (k : Nat) (Q : List (Nv α)) (nv : Value), g + k = P.length + 1 ∧ k ≤ P.length ∧ s15 = .int .i64 k ∧ Q.length = k ∧ Hid (ndsOf Q = (ndsOf P).take k) ∧ Hid (OwnNs K (w.heap.size + 2) wr nv Q) ∧ Hid (Blc wr (w.heap.size + 1) 25 #[.slice none 0 0, .int .i64 0, .slice none 0 0]) ∧ Hid (Below w.heap.size w wr) ∧ Hid (Blc wr w.heap.size 25 #[.slice np P.length nc, .int .i64 r, u]) ∧ Hid (Blc wr xb 25 #[nv, .int .i64 r, fv]) ∧ Hid (OwnI (w.heap.size + 2) wr fv F) ∧ Hid (∀ x ∈ Q, Sep fv x.rv ∧ Sep fv x.cv))
  case atStart => exact ⟨0, [], _, by omega, Nat.zero_le _, rfl, rfl, rfl, Lib.hid (OwnNs.nil _ _), HR0, HB0, HT0, HX0, HFV0, Lib.hid (fun _ h => (List.not_mem_nil h).elim)⟩
  case round =>
    clear HR0 HB0 HT0 HX0 HFV0 ht0
    obtain ⟨k, Q, nv, hg, hk, rfl, hQ, HND, HO, HR, HB, HT, HX, HFV, HSP⟩ := hrel
    obtain rfl : gk = P.length + 1 - k := by omega
    have hx0 := HX.out.cell 0
    have hx1 := HX.out.cell 1
    have hx2 := HX.out.cell 2
    simp only [List.getElem?_toArray, List.getElem?_cons_succ, List.getElem?_cons_zero] at hx0 hx1 hx2
    have hlx : Lt xb wr.heap.size := HX.out.lt
    by_cases hlt : k < P.length
    · have hPk : P[k]? = some P[k] := List.getElem?_eq_getElem hlt
      generalize P[k] = y at hPk
      obtain ⟨b, off, cap, p1, c1, p3, c3, p4, c4, e0, hk', hb, e1, e2, e3, hc0, hc1, hc2, hc3, hn⟩ := nodes_get (HN.out.below HB.out) hPk
      obtain ⟨rfl, rfl⟩ : np = some ⟨b, off, none⟩ ∧ nc = cap := by simpa using e0
      have k1 : (k : Int) < (P.length : Int) := by omega
      have k0 : (0 : Int) ≤ (k : Int) := by omega
      have HLS : LensOk y := hls y (List.mem_of_getElem? hPk)
      generalize y.n.keys.length = lk at *
      generalize y.n.rows.length = lr at *
      generalize y.n.kids.length = lc at *
      have HHK := Lib.hid hn.1
      have HHR := Lib.hid hn.2.1
      have HHC := Lib.hid hn.2.2
      rw [e1] at HHK
      rw [e2] at HHR
      rw [e3] at HHC
      clear hn e0 e1 e2 e3
      go_wp2_with fail
      have HHP := Lib.hid hPk
      clear hPk hls
      go_cut [19, 20, 21, 22, 23, 24, 25, 26, 27, 28, 29, 30] (fun s19 s20 s21 s22 s23 s24 s25 s26 s27 s28 s29 s30 wx => ∃ (kv rv cv : Value), Hid (Blc wx wr.heap.size 53 #[kv, rv, cv, .bool y.n.leaf]) ∧ Hid (OwnNd K (wr.heap.size + 1) wx ⟨kv, rv, cv, y.n⟩) ∧ Hid (Below wr.heap.size wr wx))
      case first =>
        clear HO HR HB HT HX HFV HSP HND hx0 hx1 hx2 hc0 hc1 hc2 hc3 HN HF HI
        go_region_with (first
          | (go_at_call 45; refine (cloneS_any _ _ _ _ (HHK.out.below (by (repeat (first | exact Below.refl _ _ | assumption | refine nw_more ?_ _ _ | refine nw_alloc ?_ _ | refine nw_drew ?_ | refine nw_drewN ?_ _ | refine nw_set ?_ (by first | (simp; done) | (simp; omega) | omega) _))))).mono ?_; rintro e w' ⟨ku, rfl, hok, hb⟩; obtain ⟨n1, es1, rfl⟩ := below_more hb; clear hb; obtain ⟨kp, kc, rfl⟩ := hok.form; rw [List.length_map] at hok)
          | (go_at_call_of 44 (Value.slice p3 lr c3); refine (clone_any _ _ _ ((HHR.out.below (by (repeat (first | exact Below.refl _ _ | assumption | refine nw_more ?_ _ _ | refine nw_alloc ?_ _ | refine nw_drew ?_ | refine nw_drewN ?_ _ | refine nw_set ?_ (by first | (simp; done) | (simp; omega) | omega) _)))).toAt)).mono ?_; rintro e w' ⟨ru, rfl, hor, hb⟩; obtain ⟨n2, es2, rfl⟩ := below_more hb; clear hb; obtain ⟨rp, rc, rfl⟩ := hor.slice)
          | (go_at_call_of 44 (Value.slice p4 lc c4); refine (clone_any _ _ _ ((HHC.out.below (by (repeat (first | exact Below.refl _ _ | assumption | refine nw_more ?_ _ _ | refine nw_alloc ?_ _ | refine nw_drew ?_ | refine nw_drewN ?_ _ | refine nw_set ?_ (by first | (simp; done) | (simp; omega) | omega) _)))).toAt)).mono ?_; rintro e w' ⟨cu, rfl, hoc, hb⟩; obtain ⟨n3, es3, rfl⟩ := below_more hb; clear hb; obtain ⟨cp, cc, rfl⟩ := hoc.slice))
        all_goals
          go_wp2
          go_meet
          as_aux_lemma =>
          refine ⟨.slice kp y.n.keys.length kc, .slice rp y.n.rows.length rc, .slice cp y.n.kids.length cc, Lib.hid ?_, Lib.hid ⟨?_, ?_, ?_, ?_, HLS⟩, Lib.hid (by (repeat (first | exact Below.refl _ _ | assumption | refine nw_more ?_ _ _ | refine nw_alloc ?_ _ | refine nw_drew ?_ | refine nw_drewN ?_ _ | refine nw_set ?_ (by first | (simp; done) | (simp; omega) | omega) _)))⟩
          · repeat (first | exact Blc.new _ _ _ | refine Blc.mre ?_ _ _)
          · refine own_stays (c := wr.heap.size + 1) hok ?_ ?_
            · (repeat (first | exact st_base _ _ _ | refine st_both ?_ (by simp [go_sem]) _ _ | refine st_grow ?_ _ _ | refine st_drew ?_))
            · simp [go_sem]; try omega
          · refine own_stays (c := wr.heap.size + 1) hor ?_ ?_
            · (repeat (first | exact st_base _ _ _ | refine st_both ?_ (by simp [go_sem]) _ _ | refine st_grow ?_ _ _ | refine st_drew ?_))
            · simp [go_sem]; try omega
          · refine own_stays (c := wr.heap.size + 1) hoc ?_ ?_
            · (repeat (first | exact st_base _ _ _ | refine st_both ?_ (by simp [go_sem]) _ _ | refine st_grow ?_ _ _ | refine st_drew ?_))
            · simp [go_sem]; try omega
          · first | (refine sep_late hor ?_ hoc; (simp [go_sem]; done)) | (refine sep_late hor ?_ hoc; simp [go_sem]; omega) | (refine (sep_late hoc ?_ hor).symm; (simp [go_sem]; done)) | (refine (sep_late hoc ?_ hor).symm; simp [go_sem]; omega)
      case rest =>
      obtain ⟨kv, rv, cv, HXN, HNN, HBN⟩ := hcut
      obtain ⟨kq, kqc, hkv⟩ := HNN.out.1.form
      obtain ⟨rq, rqc, hrv⟩ := HNN.out.2.1.slice
      obtain ⟨cq, cqc, hcv⟩ := HNN.out.2.2.1.slice
      dsimp only at hkv hrv hcv
      have hone : kv.oneCell' = true ∧ rv.oneCell' = true ∧ cv.oneCell' = true := ⟨by rw [hkv]; rfl, by rw [hrv]; rfl, by rw [hcv]; rfl⟩
      clear hkv hrv hcv
      have HO1 := Lib.hid (HO.out.below HBN.out)
      have HR1 := Lib.hid (HR.out.below HBN.out)
      have HT1 := Lib.hid (HT.out.below HBN.out)
      have HX1 := Lib.hid (HX.out.below HBN.out)
      have HFV1 := Lib.hid (HFV.out.below HBN.out)
      have HB1 := Lib.hid (nw_trans HB.out HBN.out)
      have hx0 := HX1.out.cell 0
      have hn0 := HXN.out.cell 0
      have hn1 := HXN.out.cell 1
      have hn2 := HXN.out.cell 2
      have hn3 := HXN.out.cell 3
      have hfx := HX1.out.free 0
      simp only [List.getElem?_toArray, List.getElem?_cons_succ, List.getElem?_cons_zero] at hx0 hn0 hn1 hn2 hn3
      have hlx : Lt xb wc.heap.size := HX1.out.lt
      have hln : Lt wr.heap.size wc.heap.size := HXN.out.lt
      have hfit : Q.length < 1000 := by omega
      clear hx1 hx2 hc0 hc1 hc2 hc3
      go_wp2_with (at_builtin; refine wpList_append_own _ rfl _ _ 22 rfl (w.heap.size + 2) 53 i0 (.agg #[.slice none 0 0, .slice none 0 0, .slice none 0 0, .bool false]) 4 80 Tryz.underlying22 HI.out hz0 hz1 hz2 rfl (by decide) _ _ _ rfl (own_below HO1.out.row (by (repeat (first | exact Below.refl _ _ | assumption | refine nw_more ?_ _ _ | refine nw_alloc ?_ _ | refine nw_drew ?_ | refine nw_drewN ?_ _ | refine nw_set ?_ (by first | (simp; done) | (simp; omega) | omega) _)))) ⟨_, 0, none⟩ 1 1 [kv, rv, cv, .bool y.n.leaf] rfl rfl ?c1 ?c2 ?c3 ?c4 ?c5 ?_)
      case c1 => exact news4 (by simp [go_sem]) (by simp [go_sem]) (by simp [go_sem]) (by simp [go_sem])
      case c2 => exact news4_one hone.1 hone.2.1 hone.2.2 rfl
      case c3 => unfold maxLen; omega
      case c4 => omega
      case c5 => have := HX1.out.lt; have := HXB.out; simp; omega
      intro v' w2 hown' hgrow hnil
      have HOO := Lib.hid (OwnNs.snoc (G := wr.heap.size + 1) HO.out (Nat.le_succ _) (by have := HB.out.size; have := HX.out.lt; have := HXB.out; omega) (HNN.out.below (nw_alloc (Below.refl _ _) (Obj.cells #[kv, rv, cv, .bool y.n.leaf] 53))) (nw_alloc HBN.out _) (by rw [hQ]; exact hown') hgrow (by omega))
      have HRR := Lib.hid ((HR1.out.alloc (Obj.cells #[kv, rv, cv, .bool y.n.leaf] 53)).grown hgrow (not_own HO1.out.row HR1.out (by decide)))
      have HTT := Lib.hid ((HT1.out.alloc (Obj.cells #[kv, rv, cv, .bool y.n.leaf] 53)).grown hgrow (not_own HO1.out.row HT1.out (by decide)))
      have HXX := Lib.hid ((HX1.out.alloc (Obj.cells #[kv, rv, cv, .bool y.n.leaf] 53)).grown hgrow (not_own HO1.out.row HX1.out (by decide)))
      have HFF := Lib.hid (World.ownsRow.kept (HFV1.out.below (nw_alloc (Below.refl _ _) (Obj.cells #[kv, rv, cv, .bool y.n.leaf] 53))) hgrow (own_apart HFV1.out HO1.out.row (by decide)))
      have HBB := Lib.hid (below_append (w := w) (by have hbel := HB1.out; (repeat (first | exact Below.refl _ _ | assumption | refine nw_more ?_ _ _ | refine nw_alloc ?_ _ | refine nw_drew ?_ | refine nw_drewN ?_ _ | refine nw_set ?_ (by first | (simp; done) | (simp; omega) | omega) _))) (own_below (World.ownsRow.mono HO1.out.row (by omega)) (nw_alloc (Below.refl _ _) (Obj.cells #[kv, rv, cv, .bool y.n.leaf] 53))) hgrow)
      have HSS : Hid (∀ x ∈ Q ++ [⟨kv, rv, cv, y.n⟩], Sep fv x.rv ∧ Sep fv x.cv) := Lib.hid (fun x hx => by
        rcases List.mem_append.1 hx with hx | hx
        · exact HSP.out x hx
        · rw [List.mem_singleton] at hx
          subst hx
          exact ⟨sep_late HFV.out (Nat.le_succ _) HNN.out.2.1, sep_late HFV.out (Nat.le_succ _) HNN.out.2.2.1⟩)
      have HDD : Hid (ndsOf (Q ++ [⟨kv, rv, cv, y.n⟩]) = (ndsOf P).take (k + 1)) := Lib.hid (by
        have h1 : (ndsOf P)[k]? = some y.n := by unfold ndsOf; rw [List.getElem?_map, HHP.out]; rfl
        rw [List.take_add_one, h1, ← HND.out]
        simp [ndsOf])
      have hx0' := HXX.out.cell 0
      have hfx' := HXX.out.free 0
      simp only [List.getElem?_toArray, List.getElem?_cons_zero] at hx0'
      have hlx' : Lt xb w2.heap.size := HXX.out.lt
      obtain ⟨vp, vc, rfl⟩ : ∃ vp vc, v' = .slice vp (k + 1) vc := by
        rcases hown'.2 with ⟨-, h0⟩ | ⟨g, c, cur, rfl, -⟩
        · omega
        · exact ⟨_, _, rfl⟩
      have hset := HXX.out.set 0 (.slice vp (k + 1) vc)
      have hff : Stays (w.heap.size + 2) w2 w2 := ⟨Nat.le_refl _, fun _ _ _ => rfl⟩
      clear hown' hgrow hnil HO HR HB HT HX HFV HSP HND HO1 HR1 HB1 HT1 HX1 HFV1 HBN HNN HXN hx0 hn0 hn1 hn2 hn3 hlx hln hfx
      go_wp2
      go_roundg (P.length + 1 - k - 1)
      case measure => omega
      case rel =>
        have hxb2 := HXB.out
        have hbel := HBB.out
        refine ⟨k + 1, Q ++ [⟨kv, rv, cv, y.n⟩], .slice vp (k + 1) vc, by omega, by omega, by go_num, by simp; omega, HDD, Lib.hid (HOO.out.set HXX.out 0 _), Lib.hid (HRR.out.far (a := ⟨xb, 0, none⟩) (by simp; omega) _), Lib.hid (by (repeat (first | exact Below.refl _ _ | assumption | refine nw_more ?_ _ _ | refine nw_alloc ?_ _ | refine nw_drew ?_ | refine nw_drewN ?_ _ | refine nw_set ?_ (by first | (simp; done) | (simp; omega) | omega) _))), Lib.hid (HTT.out.far (a := ⟨xb, 0, none⟩) (by simp; omega) _), Lib.hid hset, Lib.hid (own_set HFF.out HXX.out (by decide) 0 _), HSS⟩
    · obtain rfl : k = P.length := by omega
      obtain ⟨qp, qc, rfl⟩ : ∃ qp qc, nv = .slice qp Q.length qc := by
        obtain ⟨p, c, e, -⟩ := HO.out.inn.slice
        exact ⟨p, c, e⟩
      obtain ⟨fp, fc, rfl⟩ := HFV.out.slice
      have hr0 := HR.out.cell 0
      have hr1 := HR.out.cell 1
      have hr2 := HR.out.cell 2
      simp only [List.getElem?_toArray, List.getElem?_cons_succ, List.getElem?_cons_zero] at hr0 hr1 hr2
      have hf0 := HR.out.free 0
      have hf1 := HR.out.free 1
      have hf2 := HR.out.free 2
      have HOR := Lib.hid (((HO.out.set HR.out 0 (.slice qp P.length qc)).set (HR.out.set 0 (.slice qp P.length qc)) 1 (.int .i64 r)).set ((HR.out.set 0 (.slice qp P.length qc)).set 1 (.int .i64 r)) 2 (.slice fp F.length fc))
      have HFR := Lib.hid (own_set (own_set (own_set HFV.out HR.out (by decide) 0 (.slice qp P.length qc)) (HR.out.set 0 (.slice qp P.length qc)) (by decide) 1 (.int .i64 r)) ((HR.out.set 0 (.slice qp P.length qc)).set 1 (.int .i64 r)) (by decide) 2 (.slice fp F.length fc))
      go_wp2
      refine bodyPost_ret (v := .agg #[.slice qp P.length qc, .int .i64 r, .slice fp F.length fc]) (by simp [results, Tryz.results26, go_sem, hr0, hr1, hr2]) rfl ?_
      refine ⟨_, _, Q, rfl, by rw [← hQ]; rw [← hQ] at HOR; exact HOR.out.mono (Nat.le_add_right w.heap.size 2), by rw [HND.out, List.take_of_length_le (by rw [nds_len]; exact Nat.le_refl _)], World.ownsRow.mono HFR.out (Nat.le_add_right w.heap.size 2), HSP.out, by have hbel := HB.out; (repeat (first | exact Below.refl _ _ | assumption | refine nw_more ?_ _ _ | refine nw_alloc ?_ _ | refine nw_drew ?_ | refine nw_drewN ?_ _ | refine nw_set ?_ (by first | (simp; done) | (simp; omega) | omega) _))⟩
end Go.Proofs.YtaophiknldkfdaaGreatDoor
