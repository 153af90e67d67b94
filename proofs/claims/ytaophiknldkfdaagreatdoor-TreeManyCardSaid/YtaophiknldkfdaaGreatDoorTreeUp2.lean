/- Contracts of package tree: joinUp. -/
import Derived.Test.YtaophiknldkfdaaGreatDoorTreeUpA
import Derived.Test.YtaophiknldkfdaaGreatDoorTreeZ3
namespace Go.Proofs.YtaophiknldkfdaaGreatDoor
open Go.RowKit

attribute [local go_sem] Oper.semAt_some

theorem joins_parts {α : Type} {S1 S2 : St α} {p : Nat × Nat} {r : List (Nat × Nat)} (h : joinsP S1 (p :: r) = some S2) : ∃ x j y, S1.nodes[p.1]? = some x ∧ x.kids[p.2]? = some ((j : Nat) : Int) ∧ S1.nodes[j]? = some y ∧ ((y.keys.length < 2 ∧ ∃ S3, joinP S1 p.1 p.2 = some S3 ∧ joinsP S3 r = some S2) ∨ (¬ y.keys.length < 2 ∧ joinsP S1 r = some S2)) := by
  unfold joinsP at h
  split at h
  · cases h
  · rename_i j hj
    obtain ⟨x, hx, hk, -⟩ := kid_parts hj
    split at h
    · cases h
    · rename_i y hy
      refine ⟨x, j, y, hx, hk, hy, ?_⟩
      split at h
      · rename_i ho
        split at h
        · cases h
        · rename_i S3 h3
          exact .inl ⟨of_decide_eq_true ho, S3, h3, h⟩
      · rename_i ho
        exact .inr ⟨fun h2 => ho (decide_eq_true h2), h⟩
set_option maxRecDepth 100000 in
set_option maxHeartbeats 4000000 in
theorem joinUp_any {α : Type} (K : Ks α) (B Bp tb : Nat) (w : World) (S S' : St α) (pv : Value) (zs : List (Nat × Nat)) (h : TreeS K B tb w S) (hB : B ≤ w.heap.size) (hp : OwnPl Bp w pv zs) (hz : zs.length ≤ 1000) (hs : joinUpP S zs = some S') :
    Calls Tryz.prog 31 #[.pointer (some ⟨tb, 0, none⟩), pv] w fun e w' => e = .returned (.tuple #[]) ∧ TreeS K B tb w' S' ∧ StepT B tb w w' := by
  obtain ⟨pp, pc, hpf⟩ : ∃ pp pc, pv = .slice pp zs.length pc := by
    rcases hp.2 with ⟨rfl, e⟩ | ⟨g, c, cur, rfl, -⟩
    · exact ⟨none, 0, by rw [e]⟩
    · exact ⟨_, _, rfl⟩
  subst hpf
  obtain ⟨pb, hpb, hpl, hpc⟩ : ∃ pb, (∀ g, (Value.slice pp zs.length pc).ownBlock = some g → g = pb) ∧ pb < w.heap.size + 2 ∧ (pb = w.heap.size + 1 ∨ ∃ cs, Blc w pb 82 cs) := by
    rcases hp.2 with ⟨e, -⟩ | ⟨g, c, cur, e, -, hg, -⟩
    · exact ⟨w.heap.size + 1, fun g hg => (by rw [e] at hg; cases hg), by omega, .inl rfl⟩
    · refine ⟨g, fun g' hg' => (by rw [e] at hg'; cases hg'; rfl), ?_, .inr ⟨cur, hg⟩⟩
      have := (Array.getElem?_eq_some_iff.1 hg).1
      omega
  obtain ⟨S2, hs1, hs2⟩ : ∃ S2, joinsP S zs.reverse = some S2 ∧ (match S2.nodes[S2.root]? with
    | none => none
    | some y => if decide (y.kids.length = 1) then (match kidP S2.nodes S2.root 0 with
      | none => none
      | some c => freeP ⟨S2.nodes, c, S2.free, S2.adv⟩ S2.root) else some S2) = some S' := by
    unfold joinUpP at hs
    split at hs
    · cases hs
    · exact ⟨_, by assumption, hs⟩
  have hn : (3 : Nat) ≤ 8 := by decide
  have HNE : Hid (tb < w.heap.size) := Lib.hid (by obtain ⟨P, v, fv0, fv, -, -, -, htb⟩ := h; exact htb.lt)
  have HNP : Hid (pb ≠ tb) := Lib.hid (by
    obtain ⟨P, v, fv0, fv, -, -, -, htb⟩ := h
    rcases hpc with e | ⟨cs, e⟩
    · have := htb.lt; omega
    · rintro rfl
      unfold Blc at htb e
      rw [htb] at e
      simp at e)
  refine (callsIn_wide (n := 8)).1 ?_
  refine callsIn_of_wp_marks Tryz.func31 rfl trivial ?_ rfl
  simp only [Tryz.ntmps31, List.size_toArray, List.length_cons, List.length_nil, Nat.reduceAdd, Nat.reduceSub, Array.replicate_succ, Array.replicate_zero, List.push_toArray, List.append_toArray, List.nil_append, List.cons_append]
  gi_wp2_with (refine ⟨trivial, ?_⟩; gi_at_call 48; refine (callsIn_wide.2 (back_any _ _ _ _)).mono ?_; rintro e w' ⟨rfl, rfl⟩)
  refine wpIn_goes rfl (by decide) (gf := 70) (lb := #[.pointer (some ⟨w.heap.size + 1, 0, none⟩)]) rfl trivial (enters_of Tryz.func70 (by kernel_rfl) rfl)
    (back_goes Fence.wide 7 trivial rfl (by decide) Bp (w.heap.size + 1) pb (.slice pp zs.length pc) zs (by omega) _ (by simp) (by simp [go_sem]) (own_below hp (by (repeat (first | exact Below.refl _ _ | assumption | refine nw_more ?_ _ _ | refine nw_alloc ?_ _ | refine nw_drew ?_ | refine nw_drewN ?_ _ | refine nw_set ?_ (by first | (simp; done) | (simp; omega) | omega) _)))) hpb) KeepB.trans (KeepB.put (by simp) (by simp; omega)) (Below.refl _ _) (fun _ => rfl)
    (UpI K B tb w (.slice pp zs.length pc) pb (fun k S1 => joinsP S1 (zs.reverse.drop k) = some S2)) ?hI ?h0
    (fun k a' W => UpI K B tb w (.slice pp zs.length pc) pb (fun k S1 => joinsP S1 (zs.reverse.drop k) = some S2) k W ∧ ∃ bx idx, a' = { tmps := #[.pointer (some ⟨tb, 0, none⟩), .slice pp zs.length pc, .pointer (some ⟨w.heap.size, 0, none⟩), undef, undef, .pointer (some ⟨bx, 0, none⟩), undef, .slice pp zs.length pc, .func (.func 70) #[] #[.pointer (some ⟨w.heap.size + 1, 0, none⟩)], idx, .agg #[.int .i64 ((backAt zs k).1 : Int), .int .i64 ((backAt zs k).2 : Int)], undef, undef, undef, undef, undef, undef, undef, undef, undef, undef, undef, undef, undef, undef, undef, undef, undef, undef, undef, undef, undef, undef, undef, undef, undef, undef, undef, undef, undef, undef, undef, undef, undef, undef, undef, undef, undef, undef, undef, undef, undef, undef, undef, undef, undef, undef, undef], defers := [] } ∧ Blc W bx 82 #[.int .i64 ((backAt zs k).1 : Int), .int .i64 ((backAt zs k).2 : Int)]) ?hM ?assign ?body ?done
  case hI => exact fun k W l o o' hi hl ho hc => hi.put (Nat.le_trans (by simp; omega) hl) ho hc o'
  case h0 =>
    intro o1 o2
    refine ⟨⟨S, h.below (by (repeat (first | exact Below.refl _ _ | assumption | refine nw_more ?_ _ _ | refine nw_alloc ?_ _ | refine nw_drew ?_ | refine nw_drewN ?_ _ | refine nw_set ?_ (by first | (simp; done) | (simp; omega) | omega) _))), by simpa using hs1⟩, (StepT.refl B tb w).then (by (repeat (first | exact Below.refl _ _ | assumption | refine nw_more ?_ _ _ | refine nw_alloc ?_ _ | refine nw_drew ?_ | refine nw_drewN ?_ _ | refine nw_set ?_ (by first | (simp; done) | (simp; omega) | omega) _))), by simp, (((Blc.new w _ _).alloc _).alloc _).alloc _, ((Blc.newAt _ _ _ (by simp)).alloc _).alloc _, ?_⟩
    rcases hpc with e | ⟨cs, e⟩
    · exact .inl e
    · exact .inr ⟨cs, e.below (by (repeat (first | exact Below.refl _ _ | assumption | refine nw_more ?_ _ _ | refine nw_alloc ?_ _ | refine nw_drew ?_ | refine nw_drewN ?_ _ | refine nw_set ?_ (by first | (simp; done) | (simp; omega) | omega) _)))⟩
  case hM =>
    rintro k a W l o o' ⟨hi, bx, idx, rfl, hb⟩ hl ho hc
    exact ⟨hi.put (Nat.le_trans (by simp; omega) hl) ho hc o', bx, idx, rfl, hb.put ho hc o'⟩
  case assign =>
    intro l k W KK hk hi hK
    unfold encB
    have hsz := hi.2.2.1
    gi_wp2
    exact hK _ _ ((KeepsOthers.alloc _ _).from _) ⟨Below.heap_alloc W _ _ (by omega), Below.heap_alloc W _ _ (by omega)⟩ ⟨hi.below (by (repeat (first | exact Below.refl _ _ | assumption | refine nw_more ?_ _ _ | refine nw_alloc ?_ _ | refine nw_drew ?_ | refine nw_drewN ?_ _ | refine nw_set ?_ (by first | (simp; done) | (simp; omega) | omega) _))), _, _, rfl, Blc.new W _ _⟩
  case body =>
    rintro l k a' W hk ⟨hi, bx, idx, rfl, hbx⟩
    obtain ⟨⟨S1, hT, hsp⟩, hst, hsz, hbt, hbb, hpbk⟩ := hi
    rw [back_rev zs k hk] at hsp
    generalize backAt zs k = pk at *
    obtain ⟨pi, pj⟩ := pk
    dsimp only at *
    obtain ⟨xn, j, yn, hxn, hxk, hyn, hcase⟩ := joins_parts hsp
    have HT := Lib.hid hT
    obtain ⟨P, v, fv0, fv, hnd, hot, hfv, htb⟩ := hT
    obtain ⟨x, hx, rfl⟩ := nds_some hnd hxn
    obtain ⟨y, hy, rfl⟩ := nds_some hnd hyn
    have hjl : j < P.length := (List.getElem?_eq_some_iff.1 hy).1
    obtain ⟨nb, nc, ev, -, -, -, -⟩ := own_pos hot.ns.row (by omega)
    subst ev
    obtain ⟨fp, fn, fc, hff⟩ := hfv.form
    subst hff
    have hyo := hot.ns.each y (List.mem_of_getElem? hy)
    obtain ⟨p1, c1, p2, c2, p3, c3, e1, e2, e3⟩ := node_forms hyo
    obtain ⟨q0, q1, q2, q3, -, hnl, -⟩ := node_cells hot rfl hy
    rw [e1] at q0
    rw [e2] at q1
    rw [e3] at q2
    have t0 := htb.cell 0
    have t1 := htb.cell 1
    have t2 := htb.cell 2
    have htl : Lt tb W.heap.size := htb.lt
    have b0 := hbt.cell 0
    have hbl : Lt w.heap.size W.heap.size := hbt.lt
    have x0 := hbx.cell 0
    have x1 := hbx.cell 1
    have hxl : Lt bx W.heap.size := hbx.lt
    simp only [List.getElem?_toArray, List.getElem?_cons_succ, List.getElem?_cons_zero] at t0 t1 t2 b0 x0 x1
    have HNN := Lib.hid hot.ns.inn
    have HX := Lib.hid hx
    have HXK := Lib.hid hxk
    have k1 : (j : Int) < (P.length : Int) := by omega
    have k0 : (0 : Int) ≤ (j : Int) := by omega
    have HST := Lib.hid hst
    have HSZ := Lib.hid hsz
    have HBT := Lib.hid hbt
    have HBB := Lib.hid hbb
    have HPB := Lib.hid hpbk
    have HBW := Lib.hid (Nat.le_trans hB hst.size)
    have HPBW : Hid (pb < W.heap.size) := Lib.hid (by omega)
    generalize y.n.rows.length = L2 at *
    generalize y.n.kids.length = L3 at *
    generalize y.n.leaf = lf at *
    clear hot hfv htb hx hy hyo hst hbt hbb hbx hpbk hxk hxn hyn hnd e1 e2 e3 hp hpb hpc hs hs1 hs2
    rcases hcase with ⟨hov, S3, hsp3, hrest⟩ | ⟨hov, hrest⟩
    · have HSP := Lib.hid hsp3
      have HRE := Lib.hid hrest
      have hov2 : (y.n.keys.length : Int) < 2 := by omega
      clear hov hsp3 hrest hsp
      generalize y.n.keys.length = L1 at *
      gi_wp2_with fail
      (refine wpInR_region_more (by kernel_rfl) (by kernel_rfl) (by kernel_rfl) ?_; (repeat (first | go_big_quiet_skip | quiet_step ((first | (go_at_call 41; exact Calls.more_of (kidAt_any K B _ _ _ _ P pi pj x j (HNN.out.below (by (repeat (first | exact Below.refl _ _ | assumption | refine nw_more ?_ _ _ | refine nw_alloc ?_ _ | refine nw_drew ?_ | refine nw_drewN ?_ _ | refine nw_set ?_ (by first | (simp; done) | (simp; omega) | omega) _)))) HX.out HXK.out)))))); refine wpQuiet_nil ?_; intro _ hw'; obtain ⟨⟨nq, esq⟩, hw''⟩ := hw'; subst hw''; dsimp only)
      gi_wp2_with (refine ⟨trivial, ?_⟩; gi_at_call 54; refine (CallsIn.inRound l (callsIn_wide.2 (join_any K B tb _ S1 S3 pi pj (HT.out.below (by (repeat (first | exact Below.refl _ _ | assumption | refine nw_more ?_ _ _ | refine nw_alloc ?_ _ | refine nw_drew ?_ | refine nw_drewN ?_ _ | refine nw_set ?_ (by first | (simp; done) | (simp; omega) | omega) _)))) (Nat.le_trans HBW.out (by simp)) HSP.out))).mono ?_; rintro e w9 ⟨rfl, hts9, hst9⟩)
      have h9 : StepT B tb W w9 := ((StepT.refl B tb W).then (by (repeat (first | exact Below.refl _ _ | assumption | refine nw_more ?_ _ _ | refine nw_alloc ?_ _ | refine nw_drew ?_ | refine nw_drewN ?_ _ | refine nw_set ?_ (by first | (simp; done) | (simp; omega) | omega) _)))).trans hst9
      exact up_next HST.out HSZ.out HBT.out HBB.out HPB.out HNE.out HNP.out h9 hts9 HRE.out
    · have HRE := Lib.hid hrest
      have hov2 : ¬ (y.n.keys.length : Int) < 2 := by omega
      clear hov hrest hsp
      generalize y.n.keys.length = L1 at *
      gi_wp2_with fail
      (refine wpInR_region_more (by kernel_rfl) (by kernel_rfl) (by kernel_rfl) ?_; (repeat (first | go_big_quiet_skip | quiet_step ((first | (go_at_call 41; exact Calls.more_of (kidAt_any K B _ _ _ _ P pi pj x j (HNN.out.below (by (repeat (first | exact Below.refl _ _ | assumption | refine nw_more ?_ _ _ | refine nw_alloc ?_ _ | refine nw_drew ?_ | refine nw_drewN ?_ _ | refine nw_set ?_ (by first | (simp; done) | (simp; omega) | omega) _)))) HX.out HXK.out)))))); refine wpQuiet_nil ?_; intro _ hw'; obtain ⟨⟨nq, esq⟩, hw''⟩ := hw'; subst hw''; dsimp only)
      gi_wp2_with fail
      have h9 := (StepT.refl B tb W).then (show Below W.heap.size W (more W nq esq) by (repeat (first | exact Below.refl _ _ | assumption | refine nw_more ?_ _ _ | refine nw_alloc ?_ _ | refine nw_drew ?_ | refine nw_drewN ?_ _ | refine nw_set ?_ (by first | (simp; done) | (simp; omega) | omega) _)))
      exact up_next HST.out HSZ.out HBT.out HBB.out HPB.out HNE.out HNP.out h9 (HT.out.below (by (repeat (first | exact Below.refl _ _ | assumption | refine nw_more ?_ _ _ | refine nw_alloc ?_ _ | refine nw_drew ?_ | refine nw_drewN ?_ _ | refine nw_set ?_ (by first | (simp; done) | (simp; omega) | omega) _)))) HRE.out
  case done =>
    rintro D W hD ⟨⟨S1, hT, hsp⟩, hst, hsz, hbt, hbb, -⟩ hK
    rw [List.drop_of_length_le (by simp)] at hsp
    obtain rfl : S1 = S2 := by simpa [joinsP] using hsp
    clear hsp hs hs1 hpb hpc hp hbb
    have HT := Lib.hid hT
    obtain ⟨P, v, fv0, fv, hnd, hot, hfv, htb⟩ := hT
    cases hy : S1.nodes[S1.root]? with
    | none => rw [hy] at hs2; cases hs2
    | some yn =>
    rw [hy] at hs2
    dsimp only at hs2
    obtain ⟨y, hyy, rfl⟩ := nds_some hnd hy
    have hjl : S1.root < P.length := (List.getElem?_eq_some_iff.1 hyy).1
    obtain ⟨nb, nc, ev, -, -, -, -⟩ := own_pos hot.ns.row (by omega)
    subst ev
    have hyo := hot.ns.each y (List.mem_of_getElem? hyy)
    obtain ⟨p1, c1, p2, c2, p3, c3, e1, e2, e3⟩ := node_forms hyo
    obtain ⟨q0, q1, q2, q3, -, hnl, -⟩ := node_cells hot rfl hyy
    rw [e3] at q2
    have t0 := htb.cell 0
    have t1 := htb.cell 1
    have htl : Lt tb W.heap.size := htb.lt
    have tf := htb.free 1
    have b0 := hbt.cell 0
    have hbl : Lt w.heap.size W.heap.size := hbt.lt
    simp only [List.getElem?_toArray, List.getElem?_cons_succ, List.getElem?_cons_zero] at t0 t1 b0
    have k1 : (S1.root : Int) < (P.length : Int) := by omega
    have k0 : (0 : Int) ≤ (S1.root : Int) := by omega
    have HST := Lib.hid hst
    have HBT := Lib.hid hbt
    have HBW := Lib.hid (Nat.le_trans hB hst.size)
    have HK := Lib.hid hK
    by_cases hov : y.n.kids.length = 1
    · rw [if_pos (decide_eq_true hov)] at hs2
      obtain ⟨c, hkc, hfr⟩ : ∃ c, kidP S1.nodes S1.root 0 = some c ∧ freeP ⟨S1.nodes, c, S1.free, S1.adv⟩ S1.root = some S' := by
        split at hs2
        · cases hs2
        · exact ⟨_, by assumption, hs2⟩
      obtain ⟨x, hx, hxc, -⟩ := kid_parts hkc
      rw [hy] at hx
      obtain rfl := Option.some.inj hx
      obtain ⟨cg, cc, ecv, -, -, -, hcgl⟩ := own_pos hyo.2.2.1 (by omega)
      rw [e3] at ecv
      have m1 := World.ownsRow.cellAt (show W.ownsRow B 3 1 (.slice (some ⟨cg, 0, none⟩) y.n.kids.length cc) y.n.kids.length (y.n.kids.map (Value.int .i64)) by rw [← ecv, ← e3]; exact hyo.2.2.1) 0 (by omega)
      rw [List.getElem?_map, hxc] at m1
      simp only [Option.map_some] at m1
      rw [ecv, hov] at q2
      have HNEW := Lib.hid (show ∀ W2, W2 = W.setCell ⟨tb, 1, none⟩ (.int .i64 c) → TreeS K B tb W2 ⟨S1.nodes, c, S1.free, S1.adv⟩ ∧ StepT B tb W W2 ∧ Blc W2 w.heap.size 66 #[.pointer (some ⟨tb, 0, none⟩)] from fun W2 e => by
        subst e
        exact ⟨⟨P, _, fv0, fv, hnd, hot.set htb 1 _, hfv, htb.set 1 _⟩, stepT_set (StepT.refl B tb W) 1 _, hbt.far (a := ⟨tb, 1, none⟩) (fun e => by have := HNE.out; dsimp only at e; omega) _⟩)
      have HFR := Lib.hid hfr
      clear hs2 hkc hfr hxc hot hfv htb hyy hst hbt hnd e1 e2 e3 ecv hK hyo hov q0 q1 q3 HT
      gi_wp2_with fail
      refine wpIn_wide.2 ?_
      refine Code.wp_mono (Q := OnlyN fun a wx => ∃ (s28 s29 s30 s31 s32 s33 s34 s35 s36 s37 s38 s39 s40 s41 s42 s43 s44 s45 s46 s47 s48 s49 s50 s51 s52 s53 s54 : Value), a = { tmps := #[.pointer (some ⟨tb, 0, none⟩), .slice pp zs.length pc, .pointer (some ⟨w.heap.size, 0, none⟩), undef, undef, undef, .int .i64 S1.root, .slice pp zs.length pc, .func (.func 70) #[] #[.pointer (some ⟨w.heap.size + 1, 0, none⟩)], undef, undef, undef, undef, undef, undef, undef, undef, undef, undef, undef, undef, undef, undef, undef, undef, undef, undef, undef, s28, s29, s30, s31, s32, s33, s34, s35, s36, s37, s38, s39, s40, s41, s42, s43, s44, s45, s46, s47, s48, s49, s50, s51, s52, s53, s54, undef, undef, undef], defers := [{ target := .collected D, args := #[] }] } ∧ Hid (TreeS K B tb wx ⟨S1.nodes, c, S1.free, S1.adv⟩ ∧ StepT B tb W wx ∧ Blc wx w.heap.size 66 #[.pointer (some ⟨tb, 0, none⟩)])) ?_ ?_
      case refine_2 =>
        go_region
        all_goals
          have hd := fun (X : World) => nw_drew (Below.refl X.heap.size X)
          exact ⟨_, _, _, _, _, _, _, _, _, _, _, _, _, _, _, _, _, _, _, _, _, _, _, _, _, _, _, rfl, Lib.hid (by obtain ⟨a1, a2, a3⟩ := HNEW.out _ rfl; exact ⟨a1.below (hd _), a2.then (hd _), a3.below (hd _)⟩)⟩
      intro e a' W3 hq
      cases e with
      | normal =>
        obtain ⟨s28, s29, s30, s31, s32, s33, s34, s35, s36, s37, s38, s39, s40, s41, s42, s43, s44, s45, s46, s47, s48, s49, s50, s51, s52, s53, s54, rfl, HN3⟩ := hq
        have hbc := hbt_cell HN3.out.2.2
        have hbl3 : Lt w.heap.size W3.heap.size := HN3.out.2.2.lt
        have HFREE : Hid (Calls Tryz.prog 55 #[.pointer (some ⟨tb, 0, none⟩), .int .i64 S1.root] W3 fun e w' => e = .returned (.tuple #[]) ∧ Hid (TreeS K B tb w' S' ∧ StepT B tb W3 w')) := Lib.hid (by
          refine (free_any K B tb W3 ⟨S1.nodes, c, S1.free, S1.adv⟩ S' S1.root HN3.out.1 (Nat.le_trans HBW.out HN3.out.2.1.size) HFR.out).mono ?_
          rintro e w' ⟨rfl, h1, h2⟩
          exact ⟨rfl, Lib.hid ⟨h1, h2⟩⟩)
        gi_wp2_with (refine ⟨trivial, ?_⟩; gi_at_call 55; refine (callsIn_wide.2 HFREE.out).mono ?_; rintro e w6 ⟨rfl, HT4⟩)
        have hK9 : w6.heap[D]? = some (.deferred (some [])) := HT4.out.2.oth.same D _ (HN3.out.2.1.oth.same D _ HK.out rfl) rfl
        refine ⟨by simp, .inl ⟨_, _, rfl, run_takeDeferred hK9, ?_⟩⟩
        exact ⟨_, results_none rfl _ _ _, rfl, HT4.out.1.put hK9 rfl _, ((HST.out.trans HN3.out.2.1).trans HT4.out.2).put (Nat.le_trans (by simp; omega) hD) hK9 _⟩
      | _ => exact hq.elim
    · rw [if_neg (by simpa using hov)] at hs2
      obtain rfl := Option.some.inj hs2
      have hov2 : ¬ (y.n.kids.length : Int) = 1 := by omega
      clear hot hfv htb hyy hst hbt hnd e1 e2 e3 hK hyo hs2
      generalize y.n.kids.length = L3 at *
      clear hov
      gi_wp2_with fail
      have hK9 := HK.out
      refine ⟨by simp, .inl ⟨_, _, rfl, run_takeDeferred hK9, ?_⟩⟩
      exact ⟨_, results_none rfl _ _ _, rfl, HT.out.put hK9 rfl _, HST.out.put (Nat.le_trans (by simp; omega) hD) hK9 _⟩
end Go.Proofs.YtaophiknldkfdaaGreatDoor
