/- Contract: what a text's bytes tell. No condition. -/
import Derived.Test.YtaelgappabecgaaCoB2
import Derived.Test.YtaelgappabecgaaCoC2
namespace Go.Proofs.Ytaelgappabecgaa
open Go.RowKit

set_option maxRecDepth 100000 in
set_option maxHeartbeats 8000000 in
theorem recordIn_any (w : World) (L : List UInt8) (hL : L.length ≤ 140737488355328) :
    Calls Try.prog 24 #[.string (toB L)] w fun e w' => ∃ u, e = .returned (.agg #[.int .i64 (recP L).1, u]) ∧ OwnW w.heap.size w' u (recP L).2 ∧ Below w.heap.size w w' := by
  obtain ⟨i0, hi, hz0, hz1, hz2⟩ := info_parts info_write
  have HI := Lib.hid hi
  clear hi
  go_enter Try.func24, Try.ntmps24
  go_wp2_with fail
  obtain ⟨W0, hW0⟩ : ∃ W0, W0 = (w.alloc (Obj.cells #[.int .i64 0, .slice none 0 0] 34)).alloc (Obj.cells #[.string (toB L)] 78) := ⟨_, rfl⟩
  rw [← hW0]
  have hs0 : Blc W0 (w.heap.size + 1) 78 #[.string (toB L)] := by subst hW0; (repeat (first | exact Blc.newAt _ _ _ (by simp; done) | refine Blc.alloc ?_ _ | refine Blc.mre ?_ _ _))
  have hb0 : Blc W0 w.heap.size 34 #[.int .i64 0, .slice none 0 0] := by subst hW0; (repeat (first | exact Blc.newAt _ _ _ (by simp; done) | refine Blc.alloc ?_ _ | refine Blc.mre ?_ _ _))
  have hl0 : Below w.heap.size w W0 := by subst hW0; (repeat (first | exact Below.refl _ _ | assumption | refine nw_more ?_ _ _ | refine nw_alloc ?_ _ | refine nw_drew ?_ | refine nw_drewN ?_ _ | refine nw_set ?_ (by first | (simp; done) | (simp; omega) | omega) _))
  have hz0' : W0.heap.size = w.heap.size + 1 + 1 := by subst hW0; simp
  have HB0 := Lib.hid hb0
  have HL0 := Lib.hid hl0
  have HZ0 := Lib.hid hz0'
  clear hW0 hb0 hl0 hz0'
  refine (srcNumber_x _ W0 L 4 (by decide) hs0 hL).mono ?_
  rintro e w1 ⟨rfl, h1, k1⟩
  have hz1' : Lt (w.heap.size + 1) w1.heap.size := h1.lt
  have H1 := Lib.hid h1
  have K1 := Lib.hid k1
  clear h1 k1 hs0
  go_wp2_with fail
  obtain ⟨cn, hcn⟩ : ∃ cn, cn = decN (L.take 4) := ⟨_, rfl⟩
  rw [← hcn]
  obtain ⟨W2, hW2⟩ : ∃ W2, W2 = w1.alloc (Obj.cells #[.int .i64 cn, .slice none 0 0] 34) := ⟨_, rfl⟩
  rw [← hW2]
  have hb2 : Below w1.heap.size w1 W2 := by subst hW2; (repeat (first | exact Below.refl _ _ | assumption | refine nw_more ?_ _ _ | refine nw_alloc ?_ _ | refine nw_drew ?_ | refine nw_drewN ?_ _ | refine nw_set ?_ (by first | (simp; done) | (simp; omega) | omega) _))
  have hr2 : Blc W2 w1.heap.size 34 #[.int .i64 cn, .slice none 0 0] := by subst hW2; (repeat (first | exact Blc.newAt _ _ _ (by simp; done) | refine Blc.alloc ?_ _ | refine Blc.mre ?_ _ _))
  have hs2 := H1.out.below hb2
  have K2 := Lib.hid (K1.out.trans (KpX.of hb2))
  have hne : w1.heap.size ≠ w.heap.size + 1 := by have := hz1'.out; omega
  have hne2 : w.heap.size < w1.heap.size := by have := hz1'.out; omega
  have HR2 := Lib.hid hr2
  clear hW2 hb2 hr2 H1 K1 hz1'
  refine (srcNumber_x _ W2 _ 4 (by decide) hs2 (by rw [List.length_drop]; omega)).mono ?_
  rintro e w3 ⟨rfl, h3, k3⟩
  have H3 := Lib.hid h3
  have HR3 := Lib.hid (HR2.out.kpx k3 hne)
  have K3 := Lib.hid (K2.out.trans k3)
  clear h3 k3 hs2 HR2 K2
  obtain ⟨m, hm⟩ : ∃ m, m = min (decN ((L.drop 4).take 4)) 64 := ⟨_, rfl⟩
  have hd := decN_take (L.drop 4) 4
  have hmn : min ((decN ((L.drop 4).take 4) : Nat) : Int) 64 = (m : Int) := by omega
  have hm64 : m ≤ 64 := by omega
  have HM : Hid (min (decN ((L.drop 4).take 4)) 64 = m) := Lib.hid hm.symm
  clear hm
  have HCN := Lib.hid hcn
  generalize hL8 : (L.drop 4).drop 4 = L8 at *
  have HL8 := Lib.hid hL8
  have hL8l : L8.length ≤ 140737488355328 := by rw [← hL8, List.length_drop, List.length_drop]; omega
  generalize hdd : decN ((L.drop 4).take 4) = d at *
  have HDD := Lib.hid hdd
  clear hdd
  clear hcn hL8
  go_wp2_with (first | (go_at_call 26; refine (mostWrites_any _).mono ?_; rintro e w' ⟨rfl, rfl⟩))
  have hbe3 : Below (w.heap.size + 1) W0 w3 := K3.out.below (Nat.le_refl _) (by have := HZ0.out; omega)
  have HBE3 := Lib.hid hbe3
  have hnw : w3.heap.size ≥ w.heap.size + 1 + 1 := by have := K3.out.size; have := HZ0.out; omega
  clear K3 hbe3
  go_loopg [14] (m + 1) (fun g s14 wr => ∃ (k : Nat) (lk : List Wr) (Lk : List UInt8) (u : Value), k ≤ m ∧ g + k = m + 1 ∧ s14 = .int .i64 k ∧ Hid (lk ++ wrsP (m - k) Lk = wrsP m L8) ∧ lk.length = k ∧ Lk.length ≤ 140737488355328 ∧ Hid (Blc wr (w.heap.size + 1) 78 #[.string (toB Lk)]) ∧ Hid (Blc wr w1.heap.size 34 #[.int .i64 cn, u]) ∧ Hid (OwnW (w.heap.size + 1 + 1) wr u lk) ∧ Hid (Below (w.heap.size + 1) W0 wr) ∧ w.heap.size + 1 + 1 ≤ wr.heap.size)
  case atStart => exact ⟨0, [], L8, .slice none 0 0, Nat.zero_le _, rfl, rfl, Lib.hid rfl, rfl, hL8l, H3, HR3, Lib.hid (OwnW.nil _ _), HBE3, hnw⟩
  case round =>
    clear H3 HR3 HBE3 hL8l hnw
    obtain ⟨k, lk, Lk, u, hk, hg, rfl, HW, hlk, hLk, HS, HR, HO, HBE, hnw⟩ := hrel
    obtain rfl : gk = m + 1 - k := by omega
    clear hg
    subst hlk
    by_cases hlt : lk.length < m
    · have hkl : (lk.length : Int) < (m : Int) := by omega
      obtain ⟨up, uc, hu⟩ := HO.out.slice
      have x0 := HR.out.cell 0
      have x1 := HR.out.cell 1
      have xl : Lt w1.heap.size wr.heap.size := HR.out.lt
      simp only [List.getElem?_toArray, List.getElem?_cons_succ, List.getElem?_cons_zero] at x0 x1
      obtain ⟨x, Lx, hwr⟩ : ∃ x Lx, wrP Lk = (x, Lx) := ⟨_, _, rfl⟩
      have hws : lk ++ [x] ++ wrsP (m - (lk.length + 1)) Lx = wrsP m L8 := by
        rw [← HW.out, show m - lk.length = (m - (lk.length + 1)) + 1 by omega, wrsP, hwr]
        simp
      have HWS := Lib.hid hws
      unfold wrP at hwr
      dsimp only at hwr
      simp only [Prod.mk.injEq] at hwr
      obtain ⟨hx, hLx⟩ := hwr
      have ht1 := decN_take Lk 1
      have hg1 := decN_take (Lk.drop 1) 1
      have hp1 := txtP_len ((Lk.drop 1).drop 1)
      have hq1 := txtP_len (txtP ((Lk.drop 1).drop 1)).2
      have hdl1 : (Lk.drop 1).length ≤ 140737488355328 := by rw [List.length_drop]; omega
      have hdl2 : ((Lk.drop 1).drop 1).length ≤ 140737488355328 := by rw [List.length_drop, List.length_drop]; omega
      have HL0 := Lib.hid hLk
      have HT := Lib.hid (fun X h => srcNumber_x (w.heap.size + 1) X Lk 1 (by decide) h hLk)
      have HN := Lib.hid (fun X h => srcNumber_x (w.heap.size + 1) X (Lk.drop 1) 1 (by decide) h hdl1)
      have HP := Lib.hid (fun X h => srcText_x (w.heap.size + 1) X ((Lk.drop 1).drop 1) h hdl2)
      have HQ := Lib.hid (fun X h => srcText_x (w.heap.size + 1) X (txtP ((Lk.drop 1).drop 1)).2 h (by omega))
      generalize decN (Lk.take 1) = tn at *
      generalize decN ((Lk.drop 1).take 1) = gn at *
      generalize Lk.drop 1 = La at *
      generalize La.drop 1 = Lb at *
      generalize (txtP Lb).1 = kk at *
      generalize (txtP Lb).2 = Lc at *
      generalize (txtP Lc).1 = ss at *
      generalize (txtP Lc).2 = Ld at *
      subst hx hLx
      have hLd : Ld.length ≤ 140737488355328 := by omega
      have HX : Hid (∀ (X w8 : World) (v1 : Value), KpX (w.heap.size + 1) wr X → Blc X (w.heap.size + 1) 78 #[.string (toB Ld)] → w8.ownsRow (w.heap.size + 1 + 1) 43 4 v1 (lk.length + 1) (wCells lk ++ [.int .i64 tn, .string kk, .string ss, .bool ((gn : Int) != 0)]) → X.grownBy w8 u.ownBlock →
          (w8.cell? ⟨w1.heap.size, 1, none⟩ = some u ∧ w8.frozen? ⟨w1.heap.size, 1, none⟩ = false ∧ Lt w1.heap.size w8.heap.size) ∧
          Hid (Blc (w8.setCell ⟨w1.heap.size, 1, none⟩ v1) (w.heap.size + 1) 78 #[.string (toB Ld)]) ∧ Hid (Blc (w8.setCell ⟨w1.heap.size, 1, none⟩ v1) w1.heap.size 34 #[.int .i64 cn, v1]) ∧ Hid (OwnW (w.heap.size + 1 + 1) (w8.setCell ⟨w1.heap.size, 1, none⟩ v1) v1 (lk ++ [⟨tn, kk, ss, !decide (gn = 0)⟩])) ∧ Hid (Below (w.heap.size + 1) W0 (w8.setCell ⟨w1.heap.size, 1, none⟩ v1)) ∧ w.heap.size + 1 + 1 ≤ (w8.setCell ⟨w1.heap.size, 1, none⟩ v1).heap.size) := Lib.hid (by
        intro X w8 v1 hkx hsx ho8 hg8
        have hox : OwnW (w.heap.size + 1 + 1) X u lk := own_kpx HO.out hkx (not_own HO.out HS.out (by decide))
        have hrx := HR.out.kpx hkx hne
        have hr8 : Blc w8 w1.heap.size 34 #[.int .i64 cn, u] := hrx.grown hg8 (not_own hox hrx (by decide))
        have hs8 := hsx.grown hg8 (not_own hox hsx (by decide))
        have hz8 : wr.heap.size ≤ w8.heap.size := Nat.le_trans hkx.size hg8.size
        have hc1 := hr8.cell 1
        simp only [List.getElem?_toArray, List.getElem?_cons_succ, List.getElem?_cons_zero] at hc1
        refine ⟨⟨hc1, hr8.free 1, hr8.lt⟩, Lib.hid (hs8.far (a := ⟨w1.heap.size, 1, none⟩) (fun e => hne e.symm) _), Lib.hid ?_, Lib.hid ?_, Lib.hid ?_, ?_⟩
        · have := hr8.set 1 v1
          simpa using this
        · have h1 : OwnW (w.heap.size + 1 + 1) w8 v1 (lk ++ [⟨tn, kk, ss, !decide (gn = 0)⟩]) := by
            unfold OwnW
            rw [wCells_append, List.length_append]
            have he : ((gn : Int) != 0) = !decide (gn = 0) := by
              by_cases h0 : gn = 0
              · subst h0; rfl
              · rw [decide_eq_false h0]; simp [h0]
            rw [he] at ho8
            exact ho8
          exact ownsRow_setCell_other (a := ⟨w1.heap.size, 1, none⟩) h1 (not_own h1 hr8 (by decide)) _
        · have h1 : Below (w.heap.size + 1) wr X := hkx.below (Nat.le_refl _) (by omega)
          have h2 : Below (w.heap.size + 1) X w8 := by
            refine ⟨hg8.os, hg8.tape, hg8.output, hg8.size, fun q hq => hg8.block q (by have := hkx.size; omega) (fun e => ?_)⟩
            rcases HO.out.2 with ⟨e1, -⟩ | ⟨g, cap, cur, e1, hb, -⟩
            · rw [e1] at e; cases e
            · rw [e1, ownBlock_mk] at e; have := Option.some.inj e; omega
          exact ((HBE.out.trans h1).trans h2).trans ((Below.refl _ _).setCell (by show w.heap.size + 1 ≤ w1.heap.size; omega) _)
        · simp; omega)
      have HOW : Hid (∀ X, KpX (w.heap.size + 1) wr X → OwnW (w.heap.size + 1 + 1) X u lk) := Lib.hid (fun X hkx => own_kpx HO.out hkx (not_own HO.out HS.out (by decide)))
      have HKF : Hid (KpX (w.heap.size + 1) wr wr.drew) := Lib.hid (KpX.of (by (repeat (first | exact Below.refl _ _ | assumption | refine nw_more ?_ _ _ | refine nw_alloc ?_ _ | refine nw_drew ?_ | refine nw_drewN ?_ _ | refine nw_set ?_ (by first | (simp; done) | (simp; omega) | omega) _))))
      have HSF : Hid (Blc wr.drew (w.heap.size + 1) 78 #[.string (toB Lk)]) := Lib.hid (HS.out.below (by (repeat (first | exact Below.refl _ _ | assumption | refine nw_more ?_ _ _ | refine nw_alloc ?_ _ | refine nw_drew ?_ | refine nw_drewN ?_ _ | refine nw_set ?_ (by first | (simp; done) | (simp; omega) | omega) _))))
      have hlk64 : lk.length ≤ 64 := by omega
      clear HW HO HS ht1 hg1 hp1 hq1 hdl1 hdl2 hLk HL0 HBE hws
      subst hu
      have HRF : Hid (Blc wr.drew w1.heap.size 34 #[.int .i64 cn, .slice up lk.length uc]) := Lib.hid (HR.out.below (by (repeat (first | exact Below.refl _ _ | assumption | refine nw_more ?_ _ _ | refine nw_alloc ?_ _ | refine nw_drew ?_ | refine nw_drewN ?_ _ | refine nw_set ?_ (by first | (simp; done) | (simp; omega) | omega) _))))
      go_wp2_with fail
      go_region_law (first | (refine step_append_own rfl (.tmp 17) (.tmp 24) _ rfl (w.heap.size + 1 + 1) 43 i0 (.agg #[.int .i64 0, .string { data := #[] }, .string { data := #[] }, .bool false]) 4 48 Try.underlying32 HI.out hz0 hz1 hz2 rfl (by decide) _ lk.length (wCells lk) rfl (own_below (HOW.out _ HKF.out) (by (repeat (first | exact Below.refl _ _ | assumption | refine nw_more ?_ _ _ | refine nw_alloc ?_ _ | refine nw_drew ?_ | refine nw_drewN ?_ _ | refine nw_set ?_ (by first | (simp; done) | (simp; omega) | omega) _)))) ⟨_, 0, none⟩ 1 1 [.int .i64 tn, .string kk, .string ss, .bool ((gn : Int) != 0)] rfl rfl (news4 (by simp [go_sem]) (by simp [go_sem]) (by simp [go_sem]) (by simp [go_sem])) (by simp [Value.oneCell']) (by unfold maxLen; omega) (by omega) (by have := HKF.out.size; first | (simp; done) | (simp at this ⊢; omega) | omega) ?_; intro v1 w8 hown1 hgrow1; obtain ⟨q1, qc1, rfl⟩ := slice_own hown1 (Nat.succ_pos _); obtain ⟨⟨y1, yf, yl⟩, HZ⟩ := HX.out _ w8 _ (HKF.out.trans (KpX.of (by (repeat (first | exact Below.refl _ _ | assumption | refine nw_more ?_ _ _ | refine nw_alloc ?_ _ | refine nw_drew ?_ | refine nw_drewN ?_ _ | refine nw_set ?_ (by first | (simp; done) | (simp; omega) | omega) _))))) (HSF.out.below (by (repeat (first | exact Below.refl _ _ | assumption | refine nw_more ?_ _ _ | refine nw_alloc ?_ _ | refine nw_drew ?_ | refine nw_drewN ?_ _ | refine nw_set ?_ (by first | (simp; done) | (simp; omega) | omega) _)))) hown1 hgrow1; clear hown1 hgrow1) | (rw [if_pos (by simp [Region.wanted])]; unfold Oper.wp execOp; simp [go_sem]; (first | refine (HT.out _ HSF.out).mono ?_ | refine (HN.out _ HSF.out).mono ?_ | refine (HP.out _ HSF.out).mono ?_ | refine (HQ.out _ HSF.out).mono ?_); rintro e w9 ⟨rfl, hs9, hk9⟩; have hr9 := HRF.out.kpx hk9 hne; have hkf := HKF.out.trans hk9; clear HSF HRF HKF x0 x1 xl; have x0 := hr9.cell 0; have x1 := hr9.cell 1; have xl : Lt w1.heap.size w9.heap.size := hr9.lt; simp only [List.getElem?_toArray, List.getElem?_cons_succ, List.getElem?_cons_zero] at x0 x1; have HSF := Lib.hid hs9; have HRF := Lib.hid hr9; have HKF := Lib.hid hkf; clear hs9 hr9 hkf hk9))
      all_goals
        obtain ⟨z1, z2, z3, z4, z5⟩ := HZ
        go_wp2
        go_roundg (m - lk.length)
        case measure => omega
        case rel => exact ⟨lk.length + 1, lk ++ [⟨tn, kk, ss, !decide (gn = 0)⟩], Ld, _, by omega, by omega, by go_num, HWS, by simp, hLd, z1, z2, z3, z4, z5⟩
    · have e : lk.length = m := by omega
      have hkl : ¬ (lk.length : Int) < (m : Int) := by omega
      obtain ⟨up, uc, hu⟩ := HO.out.slice
      have x0 := HR.out.cell 0
      have x1 := HR.out.cell 1
      have xl : Lt w1.heap.size wr.heap.size := HR.out.lt
      have hb := HBE.out
      have hres : Blc wr w.heap.size 34 #[.int .i64 0, .slice none 0 0] := (hb.block _ (Nat.lt_succ_self _)).trans HB0.out
      have y0 := hres.cell 0
      have y1 := hres.cell 1
      have f0 := hres.free 0
      have f1 := hres.free 1
      have yl : Lt w.heap.size wr.heap.size := hres.lt
      simp only [List.getElem?_toArray, List.getElem?_cons_succ, List.getElem?_cons_zero] at x0 x1 y0 y1
      have hrec : recP L = ((cn : Int), lk) := by
        have hw := HW.out
        rw [e, Nat.sub_self, wrsP, List.append_nil] at hw
        unfold recP
        rw [HL8.out, ← HCN.out, HDD.out, HM.out, ← hw]
      have hfin : OwnW w.heap.size ((wr.setCell ⟨w.heap.size, 0, none⟩ (.int .i64 cn)).setCell ⟨w.heap.size, 1, none⟩ u) u lk := by
        have hn := not_own HO.out hres (by decide)
        exact World.ownsRow.mono (ownsRow_setCell_other (a := ⟨w.heap.size, 1, none⟩) (ownsRow_setCell_other (a := ⟨w.heap.size, 0, none⟩) HO.out hn _) hn _) (by omega)
      have hbelow : Below w.heap.size w ((wr.setCell ⟨w.heap.size, 0, none⟩ (.int .i64 cn)).setCell ⟨w.heap.size, 1, none⟩ u) := by
        have h1 : Below w.heap.size w wr := HL0.out.trans (hb.mono (by omega))
        exact nw_set (nw_set h1 (p := ⟨w.heap.size, 0, none⟩) (Nat.le_refl _) _) (p := ⟨w.heap.size, 1, none⟩) (Nat.le_refl _) _
      have hb2 := (hres.set 0 (.int .i64 cn)).set 1 u
      have q0 := hb2.cell 0
      have q1 := hb2.cell 1
      have s0 := (hres.set 0 (.int .i64 cn)).cell 0
      simp at q0 q1 s0
      have HF := Lib.hid hfin
      have HBL := Lib.hid hbelow
      have HREC := Lib.hid hrec
      subst hu
      clear hfin hbelow hrec hb2 hres HW HO HS HR HBE hb e
      go_wp2
      refine bodyPost_ret (v := .agg #[.int .i64 cn, .slice up lk.length uc]) (by simp [results, Try.results24, go_sem, q0, q1, s0]) rfl ⟨_, by rw [HREC.out], by rw [HREC.out]; exact HF.out, HBL.out⟩
end Go.Proofs.Ytaelgappabecgaa
