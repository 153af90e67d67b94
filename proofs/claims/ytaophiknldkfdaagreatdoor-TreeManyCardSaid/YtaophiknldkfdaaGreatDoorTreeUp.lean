/- Contracts of package tree: splitUp. -/
import Derived.Test.YtaophiknldkfdaaGreatDoorTreeUpA
namespace Go.Proofs.YtaophiknldkfdaaGreatDoor
open Go.RowKit

attribute [local go_sem] Oper.semAt_some

theorem splits_parts {α : Type} {S1 S2 : St α} {p : Nat × Nat} {r : List (Nat × Nat)} (h : splitsP S1 (p :: r) = some S2) : ∃ x j y, S1.nodes[p.1]? = some x ∧ x.kids[p.2]? = some ((j : Nat) : Int) ∧ S1.nodes[j]? = some y ∧ ((overN y = true ∧ ∃ S3, splitP S1 p.1 p.2 = some S3 ∧ splitsP S3 r = some S2) ∨ (overN y = false ∧ splitsP S1 r = some S2)) := by
  unfold splitsP at h
  split at h
  · cases h
  · rename_i j hj
    obtain ⟨x, hx, hk, -⟩ := kid_parts hj
    split at h
    · cases h
    · rename_i y hy
      refine ⟨x, j, y, hx, hk, hy, ?_⟩
      split at h
      · rename_i ho
        split at h
        · cases h
        · rename_i S3 h3
          exact .inl ⟨ho, S3, h3, h⟩
      · rename_i ho
        exact .inr ⟨by simpa using ho, h⟩
set_option maxRecDepth 100000 in
set_option maxHeartbeats 4000000 in
theorem splitUp_any {α : Type} (K : Ks α) (B Bp tb : Nat) (w : World) (S S' : St α) (pv : Value) (zs : List (Nat × Nat)) (h : TreeS K B tb w S) (hB : B ≤ w.heap.size) (hp : OwnPl Bp w pv zs) (hz : zs.length ≤ 1000) (hs : splitUpP S zs = some S') :
    Calls Tryz.prog 28 #[.pointer (some ⟨tb, 0, none⟩), pv] w fun e w' => e = .returned (.tuple #[]) ∧ TreeS K B tb w' S' ∧ StepT B tb w w' := by
  obtain ⟨pp, pc, hpf⟩ : ∃ pp pc, pv = .slice pp zs.length pc := by
    rcases hp.2 with ⟨rfl, e⟩ | ⟨g, c, cur, rfl, -⟩
    · exact ⟨none, 0, by rw [e]⟩
    · exact ⟨_, _, rfl⟩
  subst hpf
  obtain ⟨pb, hpb, hpl, hpc⟩ : ∃ pb, (∀ g, (Value.slice pp zs.length pc).ownBlock = some g → g = pb) ∧ pb < w.heap.size + 2 ∧ (pb = w.heap.size + 1 ∨ ∃ cs, Blc w pb 82 cs) := by
    rcases hp.2 with ⟨e, -⟩ | ⟨g, c, cur, e, -, hg, -⟩
    · exact ⟨w.heap.size + 1, fun g hg => (by rw [e] at hg; cases hg), by omega, .inl rfl⟩
    · refine ⟨g, fun g' hg' => (by rw [e] at hg'; cases hg'; rfl), ?_, .inr ⟨cur, hg⟩⟩
      have := (Array.getElem?_eq_some_iff.1 hg).1
      omega
  obtain ⟨S2, hs1, hs2⟩ : ∃ S2, splitsP S zs.reverse = some S2 ∧ (match S2.nodes[S2.root]? with
    | none => none
    | some y => if overN y then (match laidP S2 ⟨[], [], [(S2.root : Int)], false⟩ with
      | none => none
      | some (S3, m) => splitP ⟨S3.nodes, m, S3.free, S3.adv⟩ m 0) else some S2) = some S' := by
    unfold splitUpP at hs
    split at hs
    · cases hs
    · exact ⟨_, by assumption, hs⟩
  have hn : (3 : Nat) ≤ 8 := by decide
  have HNE : Hid (tb < w.heap.size) := Lib.hid (by obtain ⟨P, v, fv0, fv, -, -, -, htb⟩ := h; exact htb.lt)
  have HNP : Hid (pb ≠ tb) := Lib.hid (by
    obtain ⟨P, v, fv0, fv, -, -, -, htb⟩ := h
    rcases hpc with e | ⟨cs, e⟩
    · have := htb.lt; omega
    · rintro rfl
      unfold Blc at htb e
      rw [htb] at e
      simp at e)
  refine (callsIn_wide (n := 8)).1 ?_
  refine callsIn_of_wp_marks Tryz.func28 rfl trivial ?_ rfl
  simp only [Tryz.ntmps28, List.size_toArray, List.length_cons, List.length_nil, Nat.reduceAdd, Nat.reduceSub, Array.replicate_succ, Array.replicate_zero, List.push_toArray, List.append_toArray, List.nil_append, List.cons_append]
  gi_wp2_with (refine ⟨trivial, ?_⟩; gi_at_call 48; refine (callsIn_wide.2 (back_any _ _ _ _)).mono ?_; rintro e w' ⟨rfl, rfl⟩)
  refine wpIn_goes rfl (by decide) (gf := 70) (lb := #[.pointer (some ⟨w.heap.size + 1, 0, none⟩)]) rfl trivial (enters_of Tryz.func70 (by kernel_rfl) rfl)
    (back_goes Fence.wide 7 trivial rfl (by decide) Bp (w.heap.size + 1) pb (.slice pp zs.length pc) zs (by omega) _ (by simp) (by simp [go_sem]) (own_below hp (by (repeat (first | exact Below.refl _ _ | assumption | refine nw_more ?_ _ _ | refine nw_alloc ?_ _ | refine nw_drew ?_ | refine nw_drewN ?_ _ | refine nw_set ?_ (by first | (simp; done) | (simp; omega) | omega) _)))) hpb) KeepB.trans (KeepB.put (by simp) (by simp; omega)) (Below.refl _ _) (fun _ => rfl)
    (UpI K B tb w (.slice pp zs.length pc) pb (fun k S1 => splitsP S1 (zs.reverse.drop k) = some S2)) ?hI ?h0
    (fun k a' W => UpI K B tb w (.slice pp zs.length pc) pb (fun k S1 => splitsP S1 (zs.reverse.drop k) = some S2) k W ∧ ∃ bx idx, a' = { tmps := #[.pointer (some ⟨tb, 0, none⟩), .slice pp zs.length pc, .pointer (some ⟨w.heap.size, 0, none⟩), undef, undef, .pointer (some ⟨bx, 0, none⟩), .slice pp zs.length pc, .func (.func 70) #[] #[.pointer (some ⟨w.heap.size + 1, 0, none⟩)], idx, .agg #[.int .i64 ((backAt zs k).1 : Int), .int .i64 ((backAt zs k).2 : Int)], undef, undef, undef, undef, undef, undef, undef, undef, undef, undef, undef, undef, undef, undef, undef, undef, undef, undef, undef, undef, undef, undef, undef, undef, undef, undef, undef, undef, undef, undef, undef, undef, undef, undef, undef, undef, undef, undef, undef, undef, undef, undef, undef, undef], defers := [] } ∧ Blc W bx 82 #[.int .i64 ((backAt zs k).1 : Int), .int .i64 ((backAt zs k).2 : Int)]) ?hM ?assign ?body ?done
  case hI => exact fun k W l o o' hi hl ho hc => hi.put (Nat.le_trans (by simp; omega) hl) ho hc o'
  case h0 =>
    intro o1 o2
    refine ⟨⟨S, h.below (by (repeat (first | exact Below.refl _ _ | assumption | refine nw_more ?_ _ _ | refine nw_alloc ?_ _ | refine nw_drew ?_ | refine nw_drewN ?_ _ | refine nw_set ?_ (by first | (simp; done) | (simp; omega) | omega) _))), by simpa using hs1⟩, (StepT.refl B tb w).then (by (repeat (first | exact Below.refl _ _ | assumption | refine nw_more ?_ _ _ | refine nw_alloc ?_ _ | refine nw_drew ?_ | refine nw_drewN ?_ _ | refine nw_set ?_ (by first | (simp; done) | (simp; omega) | omega) _))), by simp, (((Blc.new w _ _).alloc _).alloc _).alloc _, ((Blc.newAt _ _ _ (by simp)).alloc _).alloc _, ?_⟩
    rcases hpc with e | ⟨cs, e⟩
    · exact .inl e
    · exact .inr ⟨cs, e.below (by (repeat (first | exact Below.refl _ _ | assumption | refine nw_more ?_ _ _ | refine nw_alloc ?_ _ | refine nw_drew ?_ | refine nw_drewN ?_ _ | refine nw_set ?_ (by first | (simp; done) | (simp; omega) | omega) _)))⟩
  case hM =>
    rintro k a W l o o' ⟨hi, bx, idx, rfl, hb⟩ hl ho hc
    exact ⟨hi.put (Nat.le_trans (by simp; omega) hl) ho hc o', bx, idx, rfl, hb.put ho hc o'⟩
  case assign =>
    intro l k W KK hk hi hK
    unfold encB
    have hsz := hi.2.2.1
    gi_wp2
    exact hK _ _ ((KeepsOthers.alloc _ _).from _) ⟨Below.heap_alloc W _ _ (by omega), Below.heap_alloc W _ _ (by omega)⟩ ⟨hi.below (by (repeat (first | exact Below.refl _ _ | assumption | refine nw_more ?_ _ _ | refine nw_alloc ?_ _ | refine nw_drew ?_ | refine nw_drewN ?_ _ | refine nw_set ?_ (by first | (simp; done) | (simp; omega) | omega) _))), _, _, rfl, Blc.new W _ _⟩
  case body =>
    rintro l k a' W hk ⟨hi, bx, idx, rfl, hbx⟩
    obtain ⟨⟨S1, hT, hsp⟩, hst, hsz, hbt, hbb, hpbk⟩ := hi
    rw [back_rev zs k hk] at hsp
    generalize backAt zs k = pk at *
    obtain ⟨pi, pj⟩ := pk
    dsimp only at *
    obtain ⟨xn, j, yn, hxn, hxk, hyn, hcase⟩ := splits_parts hsp
    have HT := Lib.hid hT
    obtain ⟨P, v, fv0, fv, hnd, hot, hfv, htb⟩ := hT
    obtain ⟨x, hx, rfl⟩ := nds_some hnd hxn
    obtain ⟨y, hy, rfl⟩ := nds_some hnd hyn
    have hjl : j < P.length := (List.getElem?_eq_some_iff.1 hy).1
    obtain ⟨nb, nc, ev, -, -, -, -⟩ := own_pos hot.ns.row (by omega)
    subst ev
    obtain ⟨fp, fn, fc, hff⟩ := hfv.form
    subst hff
    have hyo := hot.ns.each y (List.mem_of_getElem? hy)
    obtain ⟨p1, c1, p2, c2, p3, c3, e1, e2, e3⟩ := node_forms hyo
    obtain ⟨q0, q1, q2, q3, -, hnl, -⟩ := node_cells hot rfl hy
    rw [e1] at q0
    rw [e2] at q1
    rw [e3] at q2
    have t0 := htb.cell 0
    have t1 := htb.cell 1
    have t2 := htb.cell 2
    have htl : Lt tb W.heap.size := htb.lt
    have b0 := hbt.cell 0
    have hbl : Lt w.heap.size W.heap.size := hbt.lt
    have x0 := hbx.cell 0
    have x1 := hbx.cell 1
    have hxl : Lt bx W.heap.size := hbx.lt
    simp only [List.getElem?_toArray, List.getElem?_cons_succ, List.getElem?_cons_zero] at t0 t1 t2 b0 x0 x1
    have HNN := Lib.hid hot.ns.inn
    have HX := Lib.hid hx
    have HXK := Lib.hid hxk
    have k1 : (j : Int) < (P.length : Int) := by omega
    have k0 : (0 : Int) ≤ (j : Int) := by omega
    have HST := Lib.hid hst
    have HSZ := Lib.hid hsz
    have HBT := Lib.hid hbt
    have HBB := Lib.hid hbb
    have HPB := Lib.hid hpbk
    have HBW := Lib.hid (Nat.le_trans hB hst.size)
    have HPBW : Hid (pb < W.heap.size) := Lib.hid (by omega)
    generalize y.n.rows.length = L2 at *
    generalize y.n.kids.length = L3 at *
    generalize y.n.leaf = lf at *
    clear hot hfv htb hx hy hyo hst hbt hbb hbx hpbk hxk hxn hyn hnd e1 e2 e3 hp hpb hpc hs hs1 hs2
    rcases hcase with ⟨hov, S3, hsp3, hrest⟩ | ⟨hov, hrest⟩
    · have HOV : Hid (overB y.n.keys.length = true) := Lib.hid hov
      have HSP := Lib.hid hsp3
      have HRE := Lib.hid hrest
      clear hov hsp3 hrest hsp
      generalize y.n.keys.length = L1 at *
      gi_wp2_with fail
      (refine wpInR_region_more (by kernel_rfl) (by kernel_rfl) (by kernel_rfl) ?_; (repeat (first | go_big_quiet_skip | quiet_step ((first | (go_at_call 41; exact Calls.more_of (kidAt_any K B _ _ _ _ P pi pj x j (HNN.out.below (by (repeat (first | exact Below.refl _ _ | assumption | refine nw_more ?_ _ _ | refine nw_alloc ?_ _ | refine nw_drew ?_ | refine nw_drewN ?_ _ | refine nw_set ?_ (by first | (simp; done) | (simp; omega) | omega) _)))) HX.out HXK.out)) | (go_at_call 49; exact Calls.more_bool true HOV.out (isOver_any _ _ _ _ _ _ _)))))); refine wpQuiet_nil ?_; intro _ hw'; obtain ⟨⟨nq, esq⟩, hw''⟩ := hw'; subst hw''; dsimp only)
      gi_wp2_with (refine ⟨trivial, ?_⟩; gi_at_call 50; refine (CallsIn.inRound l (callsIn_wide.2 (split_any K B tb _ S1 S3 pi pj (HT.out.below (by (repeat (first | exact Below.refl _ _ | assumption | refine nw_more ?_ _ _ | refine nw_alloc ?_ _ | refine nw_drew ?_ | refine nw_drewN ?_ _ | refine nw_set ?_ (by first | (simp; done) | (simp; omega) | omega) _)))) (Nat.le_trans HBW.out (by simp)) HSP.out))).mono ?_; rintro e w9 ⟨rfl, hts9, hst9⟩)
      have h9 : StepT B tb W w9 := ((StepT.refl B tb W).then (by (repeat (first | exact Below.refl _ _ | assumption | refine nw_more ?_ _ _ | refine nw_alloc ?_ _ | refine nw_drew ?_ | refine nw_drewN ?_ _ | refine nw_set ?_ (by first | (simp; done) | (simp; omega) | omega) _)))).trans hst9
      exact up_next HST.out HSZ.out HBT.out HBB.out HPB.out HNE.out HNP.out h9 hts9 HRE.out
    · have HOV : Hid (overB y.n.keys.length = false) := Lib.hid hov
      have HRE := Lib.hid hrest
      clear hov hrest hsp
      generalize y.n.keys.length = L1 at *
      gi_wp2_with fail
      (refine wpInR_region_more (by kernel_rfl) (by kernel_rfl) (by kernel_rfl) ?_; (repeat (first | go_big_quiet_skip | quiet_step ((first | (go_at_call 41; exact Calls.more_of (kidAt_any K B _ _ _ _ P pi pj x j (HNN.out.below (by (repeat (first | exact Below.refl _ _ | assumption | refine nw_more ?_ _ _ | refine nw_alloc ?_ _ | refine nw_drew ?_ | refine nw_drewN ?_ _ | refine nw_set ?_ (by first | (simp; done) | (simp; omega) | omega) _)))) HX.out HXK.out)) | (go_at_call 49; exact Calls.more_bool false HOV.out (isOver_any _ _ _ _ _ _ _)))))); refine wpQuiet_nil ?_; intro _ hw'; obtain ⟨⟨nq, esq⟩, hw''⟩ := hw'; subst hw''; dsimp only)
      gi_wp2_with fail
      have h9 := (StepT.refl B tb W).then (show Below W.heap.size W (more W nq esq) by (repeat (first | exact Below.refl _ _ | assumption | refine nw_more ?_ _ _ | refine nw_alloc ?_ _ | refine nw_drew ?_ | refine nw_drewN ?_ _ | refine nw_set ?_ (by first | (simp; done) | (simp; omega) | omega) _)))
      exact up_next HST.out HSZ.out HBT.out HBB.out HPB.out HNE.out HNP.out h9 (HT.out.below (by (repeat (first | exact Below.refl _ _ | assumption | refine nw_more ?_ _ _ | refine nw_alloc ?_ _ | refine nw_drew ?_ | refine nw_drewN ?_ _ | refine nw_set ?_ (by first | (simp; done) | (simp; omega) | omega) _)))) HRE.out
  case done =>
    rintro D W hD ⟨⟨S1, hT, hsp⟩, hst, hsz, hbt, hbb, -⟩ hK
    rw [List.drop_of_length_le (by simp)] at hsp
    obtain rfl : S1 = S2 := by simpa [splitsP] using hsp
    clear hsp hs hs1 hpb hpc hp hbb
    have HT := Lib.hid hT
    obtain ⟨P, v, fv0, fv, hnd, hot, hfv, htb⟩ := hT
    cases hy : S1.nodes[S1.root]? with
    | none => rw [hy] at hs2; cases hs2
    | some yn =>
    rw [hy] at hs2
    dsimp only at hs2
    obtain ⟨y, hyy, rfl⟩ := nds_some hnd hy
    have hjl : S1.root < P.length := (List.getElem?_eq_some_iff.1 hyy).1
    obtain ⟨nb, nc, ev, -, -, -, -⟩ := own_pos hot.ns.row (by omega)
    subst ev
    obtain ⟨p1, c1, p2, c2, p3, c3, e1, e2, e3⟩ := node_forms (hot.ns.each y (List.mem_of_getElem? hyy))
    obtain ⟨q0, q1, q2, q3, -, hnl, -⟩ := node_cells hot rfl hyy
    rw [e1] at q0
    rw [e2] at q1
    rw [e3] at q2
    have t0 := htb.cell 0
    have t1 := htb.cell 1
    have htl : Lt tb W.heap.size := htb.lt
    have tf := htb.free 1
    have b0 := hbt.cell 0
    have hbl : Lt w.heap.size W.heap.size := hbt.lt
    simp only [List.getElem?_toArray, List.getElem?_cons_succ, List.getElem?_cons_zero] at t0 t1 b0
    have k1 : (S1.root : Int) < (P.length : Int) := by omega
    have k0 : (0 : Int) ≤ (S1.root : Int) := by omega
    have HST := Lib.hid hst
    have HBT := Lib.hid hbt
    have HBW := Lib.hid (Nat.le_trans hB hst.size)
    have HK := Lib.hid hK
    generalize y.n.rows.length = L2 at *
    generalize y.n.kids.length = L3 at *
    generalize y.n.leaf = lf at *
    clear hot hfv htb hyy hst hbt hnd e1 e2 e3 hK
    by_cases hov : overN y.n = true
    · rw [if_pos hov] at hs2
      have HOV : Hid (overB y.n.keys.length = true) := Lib.hid (by simpa [overN, overB] using hov)
      obtain ⟨S3, m, hld, hsp⟩ : ∃ S3 m, laidP S1 ⟨[], [], [(S1.root : Int)], false⟩ = some (S3, m) ∧ splitP ⟨S3.nodes, m, S3.free, S3.adv⟩ m 0 = some S' := by
        split at hs2
        · cases hs2
        · exact ⟨_, _, by assumption, hs2⟩
      have HLD := Lib.hid hld
      have HSP := Lib.hid hsp
      clear hov hs2 hld hsp
      generalize y.n.keys.length = L1 at *
      gi_wp2_with fail
      refine wpIn_wide.2 ?_
      (refine wp_region_quiet_more (by kernel_rfl) (by kernel_rfl) ?_; (repeat (first | go_big_quiet_skip | quiet_step ((first | (go_at_call 49; exact Calls.more_bool true HOV.out (isOver_any _ _ _ _ _ _ _)))))); refine wpQuiet_nil ?_; intro _ hw'; obtain ⟨⟨nq, esq⟩, hw''⟩ := hw'; subst hw''; dsimp only)
      gi_wp2_with fail
      refine wpIn_wide.2 ?_
      refine wp_cut (fun W2 => Hid (TreeS K B tb W2 S1) ∧ Hid (StepT B tb w W2) ∧ Hid (Blc W2 w.heap.size 66 #[.pointer (some ⟨tb, 0, none⟩)]) ∧ Hid (B ≤ W2.heap.size) ∧ Hid (W2.heap[D]? = some (.deferred (some [])))) ?_ ?_
      · exact ⟨Lib.hid (HT.out.below (by (repeat (first | exact Below.refl _ _ | assumption | refine nw_more ?_ _ _ | refine nw_alloc ?_ _ | refine nw_drew ?_ | refine nw_drewN ?_ _ | refine nw_set ?_ (by first | (simp; done) | (simp; omega) | omega) _)))), Lib.hid (HST.out.then (by (repeat (first | exact Below.refl _ _ | assumption | refine nw_more ?_ _ _ | refine nw_alloc ?_ _ | refine nw_drew ?_ | refine nw_drewN ?_ _ | refine nw_set ?_ (by first | (simp; done) | (simp; omega) | omega) _)))), Lib.hid (HBT.out.mre _ _), Lib.hid (Nat.le_trans HBW.out (by simp)), Lib.hid ((more_block W nq esq D (Array.getElem?_eq_some_iff.1 HK.out).1).trans HK.out)⟩
      clear HT HST HBT HBW HK q0 q1 q2 q3 hnl t0 t1 htl tf b0 hbl k0 k1
      rintro W2 ⟨HT, HST, HBT, HBW, HK⟩
      obtain ⟨P2, v2, fv0, fv2, hnd, hot, hfv, htb⟩ := HT.out
      have hbc := hbt_cell HBT.out
      have hbl : Lt w.heap.size W2.heap.size := HBT.out.lt
      have t1 := htb.cell 1
      have htl : Lt tb W2.heap.size := htb.lt
      simp only [List.getElem?_toArray, List.getElem?_cons_succ, List.getElem?_cons_zero] at t1
      have HLAID : Hid (Calls Tryz.prog 51 #[.pointer (some ⟨tb, 0, none⟩), .agg #[.slice none 0 0, .slice none 0 0, .slice (some ⟨W2.heap.size, 0, none⟩) 1 1, .bool false]] ((W2.alloc (.cells #[.int .i64 S1.root] 3)).drew) fun e w' => ∃ v3 fv3, e = .returned (.int .i64 m) ∧ w'.cell? ⟨w.heap.size, 0, none⟩ = some (.pointer (some ⟨tb, 0, none⟩)) ∧ Lt w.heap.size w'.heap.size ∧ w'.cell? ⟨tb, 1, none⟩ = some v3 ∧ w'.frozen? ⟨tb, 1, none⟩ = false ∧ Lt tb w'.heap.size ∧ Hid (TreeS K B tb (w'.setCell ⟨tb, 1, none⟩ (.int .i64 m)) ⟨S3.nodes, m, S3.free, S3.adv⟩) ∧ Hid (StepT B tb W2 (w'.setCell ⟨tb, 1, none⟩ (.int .i64 m))) ∧ Hid (fv3 = fv3)) := Lib.hid (by
        have hb1 : Below W2.heap.size W2 (W2.alloc (.cells #[.int .i64 S1.root] 3)).drew := nw_drew (nw_alloc (Below.refl _ _) _)
        have hy : OwnNd K W2.heap.size (W2.alloc (.cells #[.int .i64 S1.root] 3)).drew ⟨.slice none 0 0, .slice none 0 0, .slice (some ⟨W2.heap.size, 0, none⟩) 1 1, ⟨[], [], [(S1.root : Int)], false⟩⟩ := by
          refine ⟨OwnS.nil _ _, OwnI.nil _ _, ?_, Sep.none _, by simp, by simp, by simp⟩
          exact ⟨by simp, .inr ⟨W2.heap.size, 1, #[.int .i64 S1.root], rfl, Nat.le_refl _, heap_alloc_new W2 _, by simp, by unfold maxLen; omega, by simp, by simp⟩⟩
        refine (laid_all K B _ tb v2 fv0 fv2 S1.root P2 S1.free S1.adv _ S3 m (hot.below hb1) hfv (Nat.le_trans HBW.out hb1.size) (htb.below hb1) (hy.mono HBW.out) (fun i => ApartN.late hot (Nat.le_refl _) hy i) (by rw [hnd]; exact HLD.out)).mono ?_
        rintro e w' ⟨rfl, P3, v3, fv3, hnd3, hot3, hfv3, htb3, hst3⟩
        have hs3 := ((StepT.refl B tb W2).then hb1).trans hst3
        have c3 := htb3.cell 1
        simp only [List.getElem?_toArray, List.getElem?_cons_succ, List.getElem?_cons_zero] at c3
        refine ⟨_, fv3, rfl, ?_, ?_, c3, htb3.free 1, htb3.lt, Lib.hid ⟨P3, v3, fv0, fv3, hnd3, hot3.set htb3 1 _, hfv3, htb3.set 1 _⟩, Lib.hid (stepT_set hs3 1 _), Lib.hid rfl⟩
        · exact hbt_cell (hs3.blc _ _ _ HBT.out (by have := HNE.out; omega) (by decide) (by decide) (by decide))
        · exact (hs3.blc _ _ _ HBT.out (by have := HNE.out; omega) (by decide) (by decide) (by decide)).lt)
      clear hnd hot hfv htb
      refine Code.wp_mono (Q := OnlyN fun a wx => ∃ (s25 s26 s27 s28 s29 s30 s31 s32 s33 s34 s35 s36 s37 s38 s39 s40 s41 s42 s43 s44 s45 s46 : Value), a = { tmps := #[.pointer (some ⟨tb, 0, none⟩), .slice pp zs.length pc, .pointer (some ⟨w.heap.size, 0, none⟩), undef, undef, undef, .slice pp zs.length pc, .func (.func 70) #[] #[.pointer (some ⟨w.heap.size + 1, 0, none⟩)], undef, undef, undef, undef, undef, undef, undef, undef, undef, undef, undef, undef, undef, undef, undef, undef, undef, s25, s26, s27, s28, s29, s30, s31, s32, s33, s34, s35, s36, s37, s38, s39, s40, s41, s42, s43, s44, s45, s46, undef, undef, undef, undef, undef, undef, undef], defers := [{ target := .collected D, args := #[] }] } ∧ Hid (TreeS K B tb wx ⟨S3.nodes, m, S3.free, S3.adv⟩) ∧ Hid (StepT B tb W2 wx)) ?_ ?_
      case refine_2 =>
        go_region_with (first | (go_at_call 51; refine HLAID.out.mono ?_; rintro e w6 ⟨v3, fv3, rfl, d0, d1, d2, d3, d4, hts, hst, -⟩))
        all_goals
          exact ⟨_, _, _, _, _, _, _, _, _, _, _, _, _, _, _, _, _, _, _, _, _, _, rfl, hts, hst⟩
      intro e a' W3 hq
      cases e with
      | normal =>
        obtain ⟨s25, s26, s27, s28, s29, s30, s31, s32, s33, s34, s35, s36, s37, s38, s39, s40, s41, s42, s43, s44, s45, s46, rfl, HT3, HST3⟩ := hq
        gi_wp2_with fail
        refine wpIn_wide.2 ?_
        refine wp_cut (fun W3 => Hid (TreeS K B tb W3 ⟨S3.nodes, m, S3.free, S3.adv⟩) ∧ Hid (StepT B tb w W3) ∧ Hid (Blc W3 w.heap.size 66 #[.pointer (some ⟨tb, 0, none⟩)]) ∧ Hid (B ≤ W3.heap.size) ∧ Hid (W3.heap[D]? = some (.deferred (some [])))) ?_ ?_
        · exact ⟨HT3, Lib.hid (HST.out.trans HST3.out), Lib.hid (HST3.out.blc _ _ _ HBT.out (by have := HNE.out; omega) (by decide) (by decide) (by decide)), Lib.hid (Nat.le_trans HBW.out HST3.out.size), Lib.hid (HST3.out.oth.same D _ HK.out rfl)⟩
        clear HT HST HBT HBW HK HT3 HST3 HLAID hbc hbl t1 htl
        rintro W3 ⟨HT, HST, HBT, HBW, HK⟩
        obtain ⟨P3, v3, fv3, fw3, hnd, hot, hfv, htb⟩ := HT.out
        have hbc := hbt_cell HBT.out
        have hbl : Lt w.heap.size W3.heap.size := HBT.out.lt
        have t1 := htb.cell 1
        have htl : Lt tb W3.heap.size := htb.lt
        simp only [List.getElem?_toArray, List.getElem?_cons_succ, List.getElem?_cons_zero] at t1
        clear hnd hot hfv htb
        have HSPL : Hid (Calls Tryz.prog 50 #[.pointer (some ⟨tb, 0, none⟩), .agg #[.int .i64 m, .int .i64 0]] W3.drew fun e w' => e = .returned (.tuple #[]) ∧ Hid (TreeS K B tb w' S' ∧ StepT B tb W3 w')) := Lib.hid (by
          have hd := nw_drew (Below.refl W3.heap.size W3)
          refine (split_any K B tb W3.drew ⟨S3.nodes, m, S3.free, S3.adv⟩ S' m 0 (HT.out.below hd) (Nat.le_trans HBW.out hd.size) HSP.out).mono ?_
          rintro e w' ⟨rfl, h1, h2⟩
          exact ⟨rfl, Lib.hid ⟨h1, ((StepT.refl B tb W3).then hd).trans h2⟩⟩)
        refine Code.wp_mono (Q := OnlyN fun a wx => ∃ t, a = { tmps := t, defers := [{ target := .collected D, args := #[] }] } ∧ Hid (TreeS K B tb wx S' ∧ StepT B tb W3 wx)) ?_ ?_
        case refine_2 =>
          go_region_with (first | (go_at_call 50; refine HSPL.out.mono ?_; rintro e w6 ⟨rfl, hts⟩))
          all_goals
            exact ⟨_, rfl, hts⟩
        intro e a2 W4 hq2
        cases e with
        | normal =>
          obtain ⟨t, rfl, HT4⟩ := hq2
          gi_wp2_with fail
          have hK9 : W4.heap[D]? = some (.deferred (some [])) := HT4.out.2.oth.same D _ HK.out rfl
          refine ⟨by simp, .inl ⟨_, _, rfl, run_takeDeferred hK9, ?_⟩⟩
          exact ⟨_, results_none rfl _ _ _, rfl, HT4.out.1.put hK9 rfl _, (HST.out.trans HT4.out.2).put (Nat.le_trans (by simp; omega) hD) hK9 _⟩
        | _ => exact hq2.elim
      | _ => exact hq.elim
    · rw [if_neg hov] at hs2
      obtain rfl := Option.some.inj hs2
      have HOV : Hid (overB y.n.keys.length = false) := Lib.hid (by simpa [overN, overB] using hov)
      clear hov hs2
      generalize y.n.keys.length = L1 at *
      gi_wp2_with fail
      refine wpIn_wide.2 ?_
      (refine wp_region_quiet_more (by kernel_rfl) (by kernel_rfl) ?_; (repeat (first | go_big_quiet_skip | quiet_step ((first | (go_at_call 49; exact Calls.more_bool false HOV.out (isOver_any _ _ _ _ _ _ _)))))); refine wpQuiet_nil ?_; intro _ hw'; obtain ⟨⟨nq, esq⟩, hw''⟩ := hw'; subst hw''; dsimp only)
      gi_wp2_with fail
      have hK9 : (more W nq esq).heap[D]? = some (.deferred (some [])) := (more_block W nq esq D (Array.getElem?_eq_some_iff.1 HK.out).1).trans HK.out
      refine ⟨by simp, .inl ⟨_, _, rfl, run_takeDeferred hK9, ?_⟩⟩
      exact ⟨_, results_none rfl _ _ _, rfl, (HT.out.below (by (repeat (first | exact Below.refl _ _ | assumption | refine nw_more ?_ _ _ | refine nw_alloc ?_ _ | refine nw_drew ?_ | refine nw_drewN ?_ _ | refine nw_set ?_ (by first | (simp; done) | (simp; omega) | omega) _)))).put hK9 rfl _, (HST.out.then (by (repeat (first | exact Below.refl _ _ | assumption | refine nw_more ?_ _ _ | refine nw_alloc ?_ _ | refine nw_drew ?_ | refine nw_drewN ?_ _ | refine nw_set ?_ (by first | (simp; done) | (simp; omega) | omega) _)))).put (Nat.le_trans (by simp; omega) hD) hK9 _⟩
end Go.Proofs.YtaophiknldkfdaaGreatDoor
