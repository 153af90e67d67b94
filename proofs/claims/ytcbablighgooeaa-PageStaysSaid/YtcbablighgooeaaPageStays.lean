/- PageStays returns true. -/
import Derived.Test.YtcbablighgooeaaPageI
import Derived.Deep.DeepCutAuto
import Derived.Deep.RegionLaw
import Derived.BigRegion
namespace Go.Proofs.Ytcbablighgooeaa
open Go.RowKit

theorem mk_texts (w : World) : (Instr.makeSlice 22 (.int .i64 16) (.int .i64 16)).run Try.prog w = .ok (.slice (some ⟨w.heap.size, 0, none⟩) 16 16) (w.alloc (.cells (strCells fun _ => E0) 9)) := by kernel_rfl
theorem mk_there (w : World) : (Instr.makeSlice 30 (.int .i64 16) (.int .i64 16)).run Try.prog w = .ok (.slice (some ⟨w.heap.size, 0, none⟩) 16 16) (w.alloc (.cells (boolCells fun _ => false) 4)) := by kernel_rfl

set_option maxRecDepth 100000 in
set_option maxHeartbeats 8000000 in
theorem pageStays_any (w : World) (sv av : Value) (pf : Option Addr) (nf cf : Nat) (L N : Nat) (T : Nat → ByteArray) (A : Nat → Ac) (hs : StrsBig w sv L T) (ha : ActsBig w av N A) :
    Calls Try.prog 3 #[.agg #[sv, .slice pf nf cf, av]] w fun e w' => e = .returned (.bool true) ∧ Below w.heap.size w w' := by
  have HS := Lib.hid hs
  have HA := Lib.hid ha
  obtain ⟨ps, cs, rfl, -⟩ := hs
  obtain ⟨pa, ca, rfl, hN, -⟩ := ha
  go_enter Try.func3, Try.ntmps3
  go_wp2_with fail
  refine (heavy5_any _ _ _ pf nf cf L N T A (HS.out.below (by (repeat (first | exact Below.refl _ _ | assumption | refine nw_more ?_ _ _ | refine nw_alloc ?_ _ | refine nw_drew ?_ | refine nw_drewN ?_ _ | refine nw_set ?_ (by first | (simp; done) | (simp; omega) | omega) _)))) (HA.out.below (by (repeat (first | exact Below.refl _ _ | assumption | refine nw_more ?_ _ _ | refine nw_alloc ?_ _ | refine nw_drew ?_ | refine nw_drewN ?_ _ | refine nw_set ?_ (by first | (simp; done) | (simp; omega) | omega) _))))).mono ?_
  rintro e w' ⟨b, rfl, hb⟩
  obtain ⟨n, es, rfl⟩ := below_more hb
  clear hb
  cases b
  rotate_left
  · go_wp2
    go_ret
    exact ⟨rfl, by (repeat (first | exact Below.refl _ _ | assumption | refine nw_more ?_ _ _ | refine nw_alloc ?_ _ | refine nw_drew ?_ | refine nw_drewN ?_ _ | refine nw_set ?_ (by first | (simp; done) | (simp; omega) | omega) _))⟩
  · have hmt := mk_texts
    have hmb := mk_there
    have HST : Hid (St w ((((more (w.alloc (Obj.cells #[.slice ps L cs, .slice pf nf cf, .slice pa N ca] 28)) n es).alloc (Obj.cells #[.slice none 0 0, .slice none 0 0] 25)).alloc (Obj.cells (strCells fun _ => E0) 9)).alloc (Obj.cells (boolCells fun _ => false) 4)) (w.heap.size + 1 + es.size) ((w.heap.size + 1 + es.size) + 1) ((w.heap.size + 1 + es.size) + 1 + 1) #[.slice ps L cs, .slice pf nf cf, .slice pa N ca] (.slice none 0 0) (.slice none 0 0) [] [] (fun _ => E0) (fun _ => false)) := Lib.hid (by
      refine ⟨by (repeat (first | exact Below.refl _ _ | assumption | refine nw_more ?_ _ _ | refine nw_alloc ?_ _ | refine nw_drew ?_ | refine nw_drewN ?_ _ | refine nw_set ?_ (by first | (simp; done) | (simp; omega) | omega) _)), by omega, ?_, ?_, ?_, ?_, ⟨StrsIn.nil _ _, IntsIn.nil _ _⟩, PgOk.nil⟩
      · exact (((Blc.new w 28 #[.slice ps L cs, .slice pf nf cf, .slice pa N ca]).mre n es).alloc _).alloc _ |>.alloc _
      · have h := ((Blc.new (more (w.alloc (Obj.cells #[.slice ps L cs, .slice pf nf cf, .slice pa N ca] 28)) n es) 25 #[.slice none 0 0, .slice none 0 0]).alloc (Obj.cells (strCells fun _ => E0) 9)).alloc (Obj.cells (boolCells fun _ => false) 4)
        have e : (more (w.alloc (Obj.cells #[.slice ps L cs, .slice pf nf cf, .slice pa N ca] 28)) n es).heap.size = (w.heap.size + 1 + es.size) := by simp
        rw [e] at h; exact h
      · have h := (Blc.new ((more (w.alloc (Obj.cells #[.slice ps L cs, .slice pf nf cf, .slice pa N ca] 28)) n es).alloc (Obj.cells #[.slice none 0 0, .slice none 0 0] 25)) 9 (strCells fun _ => E0)).alloc (Obj.cells (boolCells fun _ => false) 4)
        have e : ((more (w.alloc (Obj.cells #[.slice ps L cs, .slice pf nf cf, .slice pa N ca] 28)) n es).alloc (Obj.cells #[.slice none 0 0, .slice none 0 0] 25)).heap.size = (w.heap.size + 1 + es.size) + 1 := by simp
        rw [e] at h; exact h
      · have h := Blc.new (((more (w.alloc (Obj.cells #[.slice ps L cs, .slice pf nf cf, .slice pa N ca] 28)) n es).alloc (Obj.cells #[.slice none 0 0, .slice none 0 0] 25)).alloc (Obj.cells (strCells fun _ => E0) 9)) 4 (boolCells fun _ => false)
        have e : (((more (w.alloc (Obj.cells #[.slice ps L cs, .slice pf nf cf, .slice pa N ca] 28)) n es).alloc (Obj.cells #[.slice none 0 0, .slice none 0 0] 25)).alloc (Obj.cells (strCells fun _ => E0) 9)).heap.size = (w.heap.size + 1 + es.size) + 1 + 1 := by simp
        rw [e] at h; exact h)
    go_wp2
    clear hmt hmb
    go_loopg [6] 31 (fun g s6 wr => ∃ (k : Nat) (v u : Value) (S : List ByteArray) (F : List Int) (tx : Nat → ByteArray) (th : Nat → Bool), k ≤ 30 ∧ g + k = 31 ∧ s6 = .int .i64 k ∧ Hid (St w wr (w.heap.size + 1 + es.size) ((w.heap.size + 1 + es.size) + 1) ((w.heap.size + 1 + es.size) + 1 + 1) #[.slice ps L cs, .slice pf nf cf, .slice pa N ca] v u S F tx th) ∧ Hid (Agree S F tx th))
    case atStart => exact ⟨0, _, _, _, _, _, _, by omega, by omega, rfl, HST, Lib.hid Agree.start⟩
    case round =>
      clear HST
      obtain ⟨k, v, u, S, F, tx, th, hk, hg, rfl, HT, HG⟩ := hrel
      obtain rfl : gk = 31 - k := by omega
      clear hg
      generalize hbx : (w.heap.size + 1 + es.size) = bx at *
      clear hbx
      have hb0 := HT.out.blk0
      have h0 := hb0.cell 2
      simp only [List.getElem?_toArray, List.getElem?_cons_succ, List.getElem?_cons_zero] at h0
      have hl0 : Lt w.heap.size wr.heap.size := hb0.lt
      by_cases hin : k < N ∧ k < 30
      · obtain ⟨hkN, hk30⟩ := hin
        obtain ⟨pv, cv, rfl, -⟩ := HT.out.page.1.slice
        obtain ⟨pu, cu, rfl, -⟩ := HT.out.page.2.slice
        have hx0 := HT.out.blkx.cell 0
        have hx1 := HT.out.blkx.cell 1
        simp only [List.getElem?_toArray, List.getElem?_cons_succ, List.getElem?_cons_zero] at hx0 hx1
        have hfx0 := HT.out.blkx.free 0
        have hfx1 := HT.out.blkx.free 1
        have hlx : Lt bx wr.heap.size := HT.out.blkx.lt
        have hlt : Lt (bx + 1) wr.heap.size := HT.out.blkt.lt
        have hlb : Lt (bx + 1 + 1) wr.heap.size := HT.out.blkb.lt
        have HORD := Lib.hid HT.out.ord
        have hS16 := HT.out.ok.len.1
        clear hb0
        obtain ⟨c, HC⟩ : ∃ c : Bool, Hid (c = decide (k % 3 = 2 ∧ 0 < S.length)) := ⟨_, rfl⟩
        go_upto_region 9 with (fail)
        go_cut [42] (fun s42 wx => s42 = .bool c ∧ wx = wr)
        case first =>
          by_cases h3 : (k : Int) % 3 = 2
          · by_cases hl : 0 < S.length
            · have hC := HC.out
              rw [decide_eq_true ⟨by omega, hl⟩] at hC
              subst hC
              go_wp2
              go_meet
              exact ⟨rfl, rfl⟩
            · have hC := HC.out
              rw [decide_eq_false (by omega)] at hC
              subst hC
              go_wp2
              go_meet
              exact ⟨rfl, rfl⟩
          · have hC := HC.out
            rw [decide_eq_false (by omega)] at hC
            subst hC
            go_wp2
            go_meet
            exact ⟨rfl, rfl⟩
        case rest =>
        obtain ⟨rfl, rfl⟩ := hcut
        go_upto_if 42 with (fail)
        go_cut [] (fun wx => ∃ (v u : Value) (S : List ByteArray) (F : List Int) (tx : Nat → ByteArray) (th : Nat → Bool), Hid (St w wx bx (bx + 1) (bx + 1 + 1) #[.slice ps L cs, .slice pf nf cf, .slice pa N ca] v u S F tx th) ∧ Hid (Agree S F tx th))
        case first =>
          cases c
          · have hblw := HT.out.below
            obtain ⟨ab, aoff, rfl, hab, hac, hac1, hac2, hsz⟩ := act_at (HA.out.below hblw) hkN
            generalize A k = act at *
            obtain ⟨ad, an, atx⟩ := act
            dsimp only at hac hac1 hac2 hsz
            have i1 : (0 : Int) ≤ (k : Int) := by omega
            have i2 : (k : Int) < (N : Int) := by omega
            clear hblw hac hac1
            cases hfit : fitsB (addS S F atx)
            · have hadd : ∀ w', PageIn (bx + 1 + 1 + 1) w' (.slice pv S.length cv) (.slice pu F.length cu) S F → Calls Try.prog 8 #[.agg #[.slice pv S.length cv, .slice pu F.length cu], .string atx] w' fun e w'' => e = .returned (.tuple #[.agg #[.slice none 0 0, .slice none 0 0], .int .i64 0, .int .i64 5]) ∧ Below w'.heap.size w' w'' := fun w' hp => (Add_any _ w' _ _ S F atx hp HT.out.ok hsz).mono fun e w'' ⟨_, h1, hb⟩ => ⟨h1 hfit, hb⟩
              have HADD := Lib.hid hadd
              clear hfit hadd
              go_upto_region 16 with (fail)
              go_cut [10, 11, 12] (fun s10 s11 s12 wx => ∃ (Y : Nat), s10 = .pointer (some ⟨Y, 0, none⟩) ∧ s11 = .int .i64 0 ∧ s12 = .int .i64 5 ∧ Hid (Below wc.heap.size wc wx))
              case first =>
                go_region_held3 (fun w9 => w9.cell? ⟨bx, 0, none⟩ = some (.slice pv S.length cv) ∧ w9.cell? ⟨bx, 1, none⟩ = some (.slice pu F.length cu) ∧ w9.cell? ⟨w.heap.size, 2, none⟩ = some (.slice (some ⟨ab, aoff, none⟩) N ca) ∧ w9.cell? ⟨ab, aoff + k * 3 + 2, none⟩ = some (.string atx)) (simp [go_sem, *]) (first | (go_at_call 8; refine (HADD.out _ (HT.out.page.below (by (repeat (first | exact Below.refl _ _ | assumption | refine nw_more ?_ _ _ | refine nw_alloc ?_ _ | refine nw_drew ?_ | refine nw_drewN ?_ _ | refine nw_set ?_ (by first | (simp; done) | (simp; omega) | omega) _))))).mono ?_; rintro e w' ⟨rfl, hb⟩; obtain ⟨n1, es1, rfl⟩ := below_more hb; clear hb))
                all_goals
                  go_wp2
                  go_meet
                  exact ⟨_, rfl, rfl, rfl, Lib.hid (by (repeat (first | exact Below.refl _ _ | assumption | refine nw_more ?_ _ _ | refine nw_alloc ?_ _ | refine nw_drew ?_ | refine nw_drewN ?_ _ | refine nw_set ?_ (by first | (simp; done) | (simp; omega) | omega) _)))⟩
              case rest =>
              obtain ⟨Y, rfl, rfl, rfl, HBL⟩ := hcut
              obtain ⟨n1, es1, rfl⟩ := below_more HBL.out
              go_wp2_with (first | (go_at_call 7; refine (num5_any _ _).mono ?_; rintro e w' ⟨rfl, rfl⟩))
              go_meet
              exact ⟨_, _, S, F, tx, th, Lib.hid (HT.out.on (by (repeat (first | exact Below.refl _ _ | assumption | refine nw_more ?_ _ _ | refine nw_alloc ?_ _ | refine nw_drew ?_ | refine nw_drewN ?_ _ | refine nw_set ?_ (by first | (simp; done) | (simp; omega) | omega) _)))), HG⟩
            · have HFIT := Lib.hid hfit
              obtain ⟨hga, hsl, hth⟩ := HG.out.add HT.out.ok hfit
              have hok2 := (add_ok HT.out.ok hfit).1
              have hadd : ∀ w', PageIn (bx + 1 + 1 + 1) w' (.slice pv S.length cv) (.slice pu F.length cu) S F → Calls Try.prog 8 #[.agg #[.slice pv S.length cv, .slice pu F.length cu], .string atx] w' fun e w'' => ∃ u1 u2, e = .returned (.tuple #[.agg #[u1, u2], .int .i64 (slotN S F), .int .i64 0]) ∧ PageIn w'.heap.size w'' u1 u2 (addS S F atx) F.tail ∧ Below w'.heap.size w' w'' := fun w' hp => (Add_any _ w' _ _ S F atx hp HT.out.ok hsz).mono fun e w'' ⟨h1, _, hb⟩ => by
                obtain ⟨u1, u2, a, b⟩ := h1 hfit
                exact ⟨u1, u2, a, b, hb⟩
              generalize addS S F atx = S' at *
              generalize slotN S F = r at *
              generalize F.tail = F' at *
              have HG2 := Lib.hid hga
              have HOK2 := Lib.hid hok2
              have HADD := Lib.hid hadd
              clear hfit HFIT hga hok2 hadd
              go_upto_region 16 with (fail)
              go_cut [10, 11, 12] (fun s10 s11 s12 wx => ∃ (Y : Nat) (u1 u2 : Value), s10 = .pointer (some ⟨Y, 0, none⟩) ∧ s11 = .int .i64 r ∧ s12 = .int .i64 0 ∧ Hid (Below wc.heap.size wc wx) ∧ Hid (Blc wx Y 25 #[u1, u2]) ∧ Hid (PageIn (bx + 1 + 1 + 1) wx u1 u2 S' F'))
              case first =>
                go_region_held3 (fun w9 => w9.cell? ⟨bx, 0, none⟩ = some (.slice pv S.length cv) ∧ w9.cell? ⟨bx, 1, none⟩ = some (.slice pu F.length cu) ∧ w9.cell? ⟨w.heap.size, 2, none⟩ = some (.slice (some ⟨ab, aoff, none⟩) N ca) ∧ w9.cell? ⟨ab, aoff + k * 3 + 2, none⟩ = some (.string atx)) (simp [go_sem, *]) (first | (go_at_call 8; refine (HADD.out _ (HT.out.page.below (by (repeat (first | exact Below.refl _ _ | assumption | refine nw_more ?_ _ _ | refine nw_alloc ?_ _ | refine nw_drew ?_ | refine nw_drewN ?_ _ | refine nw_set ?_ (by first | (simp; done) | (simp; omega) | omega) _))))).mono ?_; rintro e w' ⟨u1, u2, rfl, hp, hb⟩; obtain ⟨q1, c1, rfl, -⟩ := hp.1.slice; obtain ⟨q2, c2, rfl, -⟩ := hp.2.slice; have HPP := Lib.hid hp; obtain ⟨n1, es1, rfl⟩ := below_more hb; clear hb hp))
                all_goals
                  go_wp2
                  go_meet
                · exact ⟨_, _, _, rfl, rfl, rfl, Lib.hid (by (repeat (first | exact Below.refl _ _ | assumption | refine nw_more ?_ _ _ | refine nw_alloc ?_ _ | refine nw_drew ?_ | refine nw_drewN ?_ _ | refine nw_set ?_ (by first | (simp; done) | (simp; omega) | omega) _))), Lib.hid (by have h := Blc.new (more wc n1 es1) 25 #[.slice q1 S'.length c1, .slice q2 F'.length c2]; rw [more_size] at h; exact h), Lib.hid ((PageIn.below (w := more wc n1 es1) HPP.out (by (repeat (first | exact Below.refl _ _ | assumption | refine nw_more ?_ _ _ | refine nw_alloc ?_ _ | refine nw_drew ?_ | refine nw_drewN ?_ _ | refine nw_set ?_ (by first | (simp; done) | (simp; omega) | omega) _)))).mono hlb.out)⟩
                · exact ⟨_, _, _, rfl, rfl, rfl, Lib.hid (by (repeat (first | exact Below.refl _ _ | assumption | refine nw_more ?_ _ _ | refine nw_alloc ?_ _ | refine nw_drew ?_ | refine nw_drewN ?_ _ | refine nw_set ?_ (by first | (simp; done) | (simp; omega) | omega) _))), Lib.hid ((Blc.new wc 25 #[.slice q1 S'.length c1, .slice q2 F'.length c2]).mre _ _), Lib.hid ((HPP.out.stays (stays_swap2 (m := n1) (Y := wc.alloc (Obj.cells #[.slice q1 S'.length c1, .slice q2 F'.length c2] 25)) (by simp [World.drew]) (Nat.le_refl _))).mono (by simp [World.drew]; have := hlb.out; omega))⟩
              case rest =>
              obtain ⟨Y, u1, u2, rfl, rfl, rfl, HBL, HBY, HPY⟩ := hcut
              obtain ⟨n1, es1, rfl⟩ := below_more HBL.out
              obtain ⟨q1, c1, rfl, -⟩ := HPY.out.1.slice
              obtain ⟨q2, c2, rfl, -⟩ := HPY.out.2.slice
              have hy0 : ∀ m, (more wc m es1).cell? ⟨Y, 0, none⟩ = some (.slice q1 S'.length c1) := fun m => HBY.out.cell 0
              have hy1 : ∀ m, (more wc m es1).cell? ⟨Y, 1, none⟩ = some (.slice q2 F'.length c2) := fun m => HBY.out.cell 1
              have hthb : wc.cell? ⟨bx + 1 + 1, r, none⟩ = some (.bool false) := by rw [HT.out.blkb.cell r, boolCells_at _ _ hsl, hth]
              have hthf : wc.frozen? ⟨bx + 1 + 1, r, none⟩ = false := HT.out.blkb.free r
              have htxb : wc.cell? ⟨bx + 1, r, none⟩ = some (.string (tx r)) := by rw [HT.out.blkt.cell r, strCells_at _ _ hsl]
              have htxf : wc.frozen? ⟨bx + 1, r, none⟩ = false := HT.out.blkt.free r
              have r1 : (r : Int) < 16 := by omega
              have r0 : (0 : Int) ≤ (r : Int) := by omega
              have HNB : Hid (numB (r : Int) 15 = true) := Lib.hid (by simp [numB]; omega)
              go_wp2_with (first | (go_at_call 7; refine (num5_any _ _).mono ?_; rintro e w' ⟨rfl, rfl⟩) | (go_at_call 9; refine (numB_any _ _ _).mono ?_; rw [HNB.out]; rintro e w' ⟨rfl, rfl⟩))
              go_region
              go_wp2
              go_meet
              have hpy : PageIn (bx + 1 + 1 + 1) (more wc (n1 + 1) es1) (.slice q1 S'.length c1) (.slice q2 F'.length c2) S' F' := HPY.out.below (nw_drew (Below.refl _ _))
              have h1 := ((HT.out.lay hpy HOK2.out).there r hsl true).text r hsl atx
              rw [more_setCell _ _ _ _ _ _ (by simp only [set_size]; exact hlb), more_setCell _ _ _ _ _ _ (by simp only [set_size]; exact hlt)] at h1
              exact ⟨_, _, S', F', _, _, Lib.hid (h1.on (by (repeat (first | exact Below.refl _ _ | assumption | refine nw_more ?_ _ _ | refine nw_alloc ?_ _ | refine nw_drew ?_ | refine nw_drewN ?_ _ | refine nw_set ?_ (by first | (simp; done) | (simp; omega) | omega) _)))), HG2⟩
          · have hC := of_decide_eq_true HC.out.symm
            obtain ⟨hk3, hSl⟩ := hC
            have hblw := HT.out.below
            obtain ⟨ab, aoff, rfl, hab, hac, hac1, hac2, hsz⟩ := act_at (HA.out.below hblw) hkN
            generalize A k = act at *
            obtain ⟨ad, an, atx⟩ := act
            dsimp only at hac hac1 hac2 hsz
            have hr := withinV_lt an hSl
            have HW : Hid (((withinV an S.length : Nat) : Int) = (withinV an S.length : Nat)) := rfl
            have hrw : ∀ w', Calls Try.prog 5 #[.int .i64 an, .int .i64 S.length] w' fun e w'' => e = .returned (.int .i64 (withinV an S.length)) ∧ w' = w'' := fun w' => within_fun an S.length w' hSl (by omega)
            generalize withinV an S.length = r at *
            have HRW := Lib.hid hrw
            have i1 : (0 : Int) ≤ (k : Int) := by omega
            have i2 : (k : Int) < (N : Int) := by omega
            clear hrw hblw
            go_wp2_with fail
            (refine wp_region_quiet_more (by kernel_rfl) (by kernel_rfl) ?_; (repeat (first | go_big_quiet_skip | quiet_step ((first | (go_at_call 5; exact Calls.more_same_int (r : Int) rfl (HRW.out _)))))); refine wpQuiet_nil ?_; intro _ hw'; obtain ⟨⟨nq, esq⟩, hw''⟩ := hw'; subst hw''; dsimp only)
            go_wp2_with fail
            cases hrec : recB S F r
            · have HR := Lib.hid hrec
              have hthr : th r = false := by rw [HG.out.inv r (by omega)]; exact hrec
              clear hrec
              refine (Cut_none _ _ _ _ S F r (HT.out.page.below (by (repeat (first | exact Below.refl _ _ | assumption | refine nw_more ?_ _ _ | refine nw_alloc ?_ _ | refine nw_drew ?_ | refine nw_drewN ?_ _ | refine nw_set ?_ (by first | (simp; done) | (simp; omega) | omega) _)))) HT.out.ok HR.out).mono ?_
              (rintro e w' ⟨rfl, hb⟩; obtain ⟨n, es, rfl⟩ := below_more hb; clear hb)
              have hthb : wc.cell? ⟨bx + 1 + 1, r, none⟩ = some (.bool false) := by rw [HT.out.blkb.cell r, boolCells_at _ _ (by omega), hthr]
              have r16 : decide ((16 : Int) ≤ (r : Int)) = false := by simp; omega
              have r1 : (r : Int) < 16 := by omega
              have r0 : (0 : Int) ≤ (r : Int) := by omega
              go_wp2_with fail
              (refine wp_region_quiet_more (by kernel_rfl) (by kernel_rfl) ?_; (repeat (first | go_big_quiet_skip | quiet_step ((first | (go_at_call 7; exact Calls.more_same (num5_any _ _)))))); refine wpQuiet_nil ?_; intro _ hw'; obtain ⟨⟨nq, esq⟩, hw''⟩ := hw'; subst hw''; dsimp only)
              go_wp2_with (first | (go_at_call 7; refine (num5_any _ _).mono ?_; rintro e w' ⟨rfl, rfl⟩))
              go_meet
              exact ⟨_, _, S, F, tx, th, Lib.hid (HT.out.on (by (repeat (first | exact Below.refl _ _ | assumption | refine nw_more ?_ _ _ | refine nw_alloc ?_ _ | refine nw_drew ?_ | refine nw_drewN ?_ _ | refine nw_set ?_ (by first | (simp; done) | (simp; omega) | omega) _)))), HG⟩
            · have HR := Lib.hid hrec
              have hthr : th r = true := by rw [HG.out.inv r (by omega)]; exact hrec
              clear hrec
              refine (Cut_any _ _ _ _ S F r (HT.out.page.below (by (repeat (first | exact Below.refl _ _ | assumption | refine nw_more ?_ _ _ | refine nw_alloc ?_ _ | refine nw_drew ?_ | refine nw_drewN ?_ _ | refine nw_set ?_ (by first | (simp; done) | (simp; omega) | omega) _)))) HT.out.ok HR.out).mono ?_
              rintro e w' ⟨u1, u2, S', F', rfl, hp, hok, hrec2, htx, hb⟩
              have hbt : Below wc.heap.size wc w' := nw_trans (by (repeat (first | exact Below.refl _ _ | assumption | refine nw_more ?_ _ _ | refine nw_alloc ?_ _ | refine nw_drew ?_ | refine nw_drewN ?_ _ | refine nw_set ?_ (by first | (simp; done) | (simp; omega) | omega) _))) hb
              obtain ⟨n2, es2, rfl⟩ := below_more hbt
              obtain ⟨pv2, cv2, rfl, -⟩ := hp.1.slice
              obtain ⟨pu2, cu2, rfl, -⟩ := hp.2.slice
              have HP2 := Lib.hid (hp.mono (B' := bx + 1 + 1 + 1) (by simp; have := hlb.out; omega))
              have HOK2 := Lib.hid hok
              have HG2 := Lib.hid (HG.out.cut (by omega) hrec2 htx)
              clear hb hbt hp hok hrec2 htx
              have hthb : wc.cell? ⟨bx + 1 + 1, r, none⟩ = some (.bool true) := by rw [HT.out.blkb.cell r, boolCells_at _ _ (by omega), hthr]
              have hthf : wc.frozen? ⟨bx + 1 + 1, r, none⟩ = false := HT.out.blkb.free r
              have r16 : decide ((16 : Int) ≤ (r : Int)) = false := by simp; omega
              have r1 : (r : Int) < 16 := by omega
              have r0 : (0 : Int) ≤ (r : Int) := by omega
              go_wp2_with fail
              (refine wp_region_quiet_more (by kernel_rfl) (by kernel_rfl) ?_; (repeat (first | go_big_quiet_skip | quiet_step ((first | (go_at_call 7; exact Calls.more_same (num5_any _ _)))))); refine wpQuiet_nil ?_; intro _ hw'; obtain ⟨⟨nq, esq⟩, hw''⟩ := hw'; subst hw''; dsimp only)
              go_wp2_with (first | (go_at_call 7; refine (num5_any _ _).mono ?_; rintro e w' ⟨rfl, rfl⟩))
              go_meet
              have h1 := (HT.out.lay HP2.out HOK2.out).there r (by omega) false
              rw [more_setCell _ _ _ _ _ _ (by simp only [set_size]; exact hlb)] at h1
              exact ⟨_, _, S', F', tx, upd th r false, Lib.hid (h1.on (by (repeat (first | exact Below.refl _ _ | assumption | refine nw_more ?_ _ _ | refine nw_alloc ?_ _ | refine nw_drew ?_ | refine nw_drewN ?_ _ | refine nw_set ?_ (by first | (simp; done) | (simp; omega) | omega) _)))), HG2⟩
        case rest =>
        obtain ⟨v2, u2', S2, F2, tx2, th2, HT2, HG2⟩ := hcut
        obtain ⟨pv2, cv2, rfl, -⟩ := HT2.out.page.1.slice
        obtain ⟨pu2, cu2, rfl, -⟩ := HT2.out.page.2.slice
        clear h0 hl0 HT hx0 hx1 hfx0 hfx1 hlx hlt hlb HC HG hS16
        have hx0 := HT2.out.blkx.cell 0
        have hx1 := HT2.out.blkx.cell 1
        simp only [List.getElem?_toArray, List.getElem?_cons_succ, List.getElem?_cons_zero] at hx0 hx1
        have hlx : Lt bx wc.heap.size := HT2.out.blkx.lt
        have hlt : Lt (bx + 1) wc.heap.size := HT2.out.blkt.lt
        have hlb : Lt (bx + 1 + 1) wc.heap.size := HT2.out.blkb.lt
        go_wp2_with fail
        go_loopg [13] 17 (fun g s13 wx => (∃ n es, wx = more wc n es) ∧ ∃ i : Nat, i ≤ 16 ∧ g + i = 17 ∧ s13 = .int .i64 i)
        case atStart => exact ⟨below_more (Below.refl _ _), 0, by omega, by omega, rfl⟩
        case round =>
          obtain ⟨⟨n1, es1, rfl⟩, i, hi, hg, rfl⟩ := hrel
          obtain rfl : gk = 17 - i := by omega
          clear hg
          by_cases hi16 : i < 16
          · have i16 : (i : Int) < 16 := by omega
            have i0 : (0 : Int) ≤ (i : Int) := by omega
            have hinv := HG2.out.inv i hi16
            have htxt := HG2.out.txt i hi16
            have hthb := HT2.out.blkb.cell i
            rw [boolCells_at _ _ hi16] at hthb
            have htxb := HT2.out.blkt.cell i
            rw [strCells_at _ _ hi16] at htxb
            cases hth : th2 i
            · rw [hth] at hthb
              have HR : Hid (recB S2 F2 i = false) := Lib.hid (by rw [← hinv]; exact hth)
              clear hinv htxt hth
              go_wp2_with fail
              refine (Get_none _ _ _ _ S2 F2 i (HT2.out.page.below (by (repeat (first | exact Below.refl _ _ | assumption | refine nw_more ?_ _ _ | refine nw_alloc ?_ _ | refine nw_drew ?_ | refine nw_drewN ?_ _ | refine nw_set ?_ (by first | (simp; done) | (simp; omega) | omega) _)))) HT2.out.ok HR.out).mono ?_
              (rintro e w' ⟨rfl, hb⟩; obtain ⟨n, es, rfl⟩ := below_more hb; clear hb)
              go_wp2_with fail
              (refine wp_region_quiet_more (by kernel_rfl) (by kernel_rfl) ?_; (repeat (first | go_big_quiet_skip | quiet_step ((first | (go_at_call 7; exact Calls.more_same (num5_any _ _)))))); refine wpQuiet_nil ?_; intro _ hw'; obtain ⟨⟨nq, esq⟩, hw''⟩ := hw'; subst hw''; dsimp only)
              go_wp2
              go_roundg (17 - i - 1)
              case measure => omega
              case rel => exact ⟨below_more (by (repeat (first | exact Below.refl _ _ | assumption | refine nw_more ?_ _ _ | refine nw_alloc ?_ _ | refine nw_drew ?_ | refine nw_drewN ?_ _ | refine nw_set ?_ (by first | (simp; done) | (simp; omega) | omega) _))), i + 1, by omega, by omega, by go_num⟩
            · rw [hth] at hthb
              have HR : Hid (recB S2 F2 i = true) := Lib.hid (by rw [← hinv]; exact hth)
              have HTX := Lib.hid (htxt hth)
              clear hinv htxt hth
              go_wp2_with fail
              refine (Get_any _ _ _ _ S2 F2 i (HT2.out.page.below (by (repeat (first | exact Below.refl _ _ | assumption | refine nw_more ?_ _ _ | refine nw_alloc ?_ _ | refine nw_drew ?_ | refine nw_drewN ?_ _ | refine nw_set ?_ (by first | (simp; done) | (simp; omega) | omega) _)))) HT2.out.ok HR.out).mono ?_
              rw [← HTX.out]
              (rintro e w' ⟨rfl, hb⟩; obtain ⟨n, es, rfl⟩ := below_more hb; clear hb)
              generalize tx2 i = sx at *
              go_wp2_with fail
              (refine wp_region_quiet_more (by kernel_rfl) (by kernel_rfl) ?_; (repeat (first | go_big_quiet_skip | quiet_step ((first | (go_at_call 7; exact Calls.more_same (num5_any _ _)))))); refine wpQuiet_nil ?_; intro _ hw'; obtain ⟨⟨nq, esq⟩, hw''⟩ := hw'; subst hw''; dsimp only)
              go_wp2
              go_roundg (17 - i - 1)
              case measure => omega
              case rel => exact ⟨below_more (by (repeat (first | exact Below.refl _ _ | assumption | refine nw_more ?_ _ _ | refine nw_alloc ?_ _ | refine nw_drew ?_ | refine nw_drewN ?_ _ | refine nw_set ?_ (by first | (simp; done) | (simp; omega) | omega) _))), i + 1, by omega, by omega, by go_num⟩
          · go_wp2
            go_roundg (31 - k - 1)
            case measure => omega
            case rel => exact ⟨k + 1, _, _, S2, F2, tx2, th2, by omega, by omega, by go_num, Lib.hid (HT2.out.on (by (repeat (first | exact Below.refl _ _ | assumption | refine nw_more ?_ _ _ | refine nw_alloc ?_ _ | refine nw_drew ?_ | refine nw_drewN ?_ _ | refine nw_set ?_ (by first | (simp; done) | (simp; omega) | omega) _)))), HG2⟩
      · clear hb0
        go_upto_region 7 with (fail)
        go_cut [31] (fun s31 wx => s31 = .bool false ∧ wx = wr)
        case first =>
          by_cases hk1 : k < N
          · have hk2 : ¬ (k : Int) < 30 := by omega
            go_wp2
            go_meet
            exact ⟨rfl, rfl⟩
          · go_wp2
            go_meet
            exact ⟨rfl, rfl⟩
        case rest =>
        obtain ⟨rfl, rfl⟩ := hcut
        clear h0 hl0 hin
        go_wp2_with fail
        go_loopg [16] 17 (fun g s16 wx => ∃ (i : Nat) (x : Int) (v u : Value) (S : List ByteArray) (F : List Int), i ≤ 16 ∧ g = i + 1 ∧ s16 = .int .i64 x ∧ Hid (x = (i : Int) - 1) ∧ Hid (St w wx bx (bx + 1) (bx + 1 + 1) #[.slice ps L cs, .slice pf nf cf, .slice pa N ca] v u S F tx th) ∧ Hid (∀ m : Nat, m < 16 → recB S F m = (th m && decide (m < i))))
        case atStart => exact ⟨16, 15, v, u, S, F, by omega, by omega, rfl, rfl, HT, Lib.hid (fun m hm => by rw [HG.out.inv m hm, decide_eq_true hm, Bool.and_true])⟩
        case round =>
          clear HT HG
          obtain ⟨i, x, v, u, S, F, hi, hg, rfl, HX, HT, HR⟩ := hrel
          have hx0 := HT.out.blkx.cell 0
          have hx1 := HT.out.blkx.cell 1
          obtain ⟨pv, cv, rfl, -⟩ := HT.out.page.1.slice
          obtain ⟨pu, cu, rfl, -⟩ := HT.out.page.2.slice
          simp only [List.getElem?_toArray, List.getElem?_cons_succ, List.getElem?_cons_zero] at hx0 hx1
          have hfx0 := HT.out.blkx.free 0
          have hfx1 := HT.out.blkx.free 1
          have hlx : Lt bx wr.heap.size := HT.out.blkx.lt
          have hlb : Lt (bx + 1 + 1) wr.heap.size := HT.out.blkb.lt
          subst hg
          cases i with
          | zero =>
            obtain ⟨rfl, rfl⟩ := empty_of HT.out.ok (fun m hm => by rw [HR.out m hm]; simp)
            obtain rfl : x = -1 := by have := HX.out; omega
            clear HX
            go_wp2_with (first | (go_at_call 11; refine (eqPage_nil _ _ _ _ _ _ _ _ _).mono ?_; (rintro e w' ⟨rfl, hb⟩; obtain ⟨n, es, rfl⟩ := below_more hb; clear hb)) | (go_at_call 12; refine (refPage_nil _ _ _ _ _).mono ?_; (rintro e w' ⟨rfl, hb⟩; obtain ⟨n, es, rfl⟩ := below_more hb; clear hb)) | (go_at_call 13; refine (wakes5_any _).mono ?_; (rintro e w' ⟨rfl, hb⟩; obtain ⟨n, es, rfl⟩ := below_more hb; clear hb)))
            go_ret
            exact ⟨rfl, by have hbel := HT.out.below; (repeat (first | exact Below.refl _ _ | assumption | refine nw_more ?_ _ _ | refine nw_alloc ?_ _ | refine nw_drew ?_ | refine nw_drewN ?_ _ | refine nw_set ?_ (by first | (simp; done) | (simp; omega) | omega) _))⟩
          | succ j =>
            obtain rfl : x = (j : Int) := by have := HX.out; omega
            clear HX
            have j16 : (j : Int) < 16 := by omega
            have j0 : (0 : Int) ≤ (j : Int) := by omega
            have hrj := HR.out j (by omega)
            rw [decide_eq_true (Nat.lt_succ_self j), Bool.and_true] at hrj
            have hthb := HT.out.blkb.cell j
            rw [boolCells_at _ _ (by omega)] at hthb
            cases hth : th j
            · rw [hth] at hthb hrj
              have HR2 : Hid (∀ m : Nat, m < 16 → recB S F m = (th m && decide (m < j))) := Lib.hid (fun m hm => by
                rw [HR.out m hm]
                by_cases e : m = j
                · subst e; rw [hth]; rfl
                · congr 1; rw [decide_eq_decide]; omega)
              clear hth hrj
              go_wp2
              go_roundg (j + 1)
              case measure => omega
              case rel => exact ⟨j, (j : Int) - 1, _, _, S, F, by omega, rfl, by go_num, rfl, HT, HR2⟩
            · rw [hth] at hthb hrj
              have HRJ := Lib.hid hrj
              clear hth hrj
              go_wp2_with fail
              refine (Cut_any _ _ _ _ S F j (HT.out.page.below (by (repeat (first | exact Below.refl _ _ | assumption | refine nw_more ?_ _ _ | refine nw_alloc ?_ _ | refine nw_drew ?_ | refine nw_drewN ?_ _ | refine nw_set ?_ (by first | (simp; done) | (simp; omega) | omega) _)))) HT.out.ok HRJ.out).mono ?_
              rintro e w' ⟨u1, u2, S', F', rfl, hp, hok, hrec2, htx, hb⟩
              obtain ⟨n2, es2, rfl⟩ := below_more hb
              obtain ⟨pv2, cv2, rfl, -⟩ := hp.1.slice
              obtain ⟨pu2, cu2, rfl, -⟩ := hp.2.slice
              have HP2 := Lib.hid (hp.mono (B' := bx + 1 + 1 + 1) (by have := hlb.out; omega))
              have HOK2 := Lib.hid hok
              have HR2 : Hid (∀ m : Nat, m < 16 → recB S' F' m = (th m && decide (m < j))) := Lib.hid (fun m hm => by
                rw [hrec2 m, HR.out m hm]
                by_cases e : m = j
                · subst e; simp
                · rw [Bool.and_assoc]; congr 1
                  rw [Bool.eq_iff_iff]; simp; omega)
              clear hb hp hok hrec2 htx
              go_wp2_with (first | (go_at_call 7; refine (num5_any _ _).mono ?_; rintro e w' ⟨rfl, rfl⟩))
              go_roundg (j + 1)
              case measure => omega
              case rel => exact ⟨j, (j : Int) - 1, _, _, S', F', by omega, rfl, by go_num, rfl, Lib.hid ((HT.out.lay HP2.out HOK2.out).on (by (repeat (first | exact Below.refl _ _ | assumption | refine nw_more ?_ _ _ | refine nw_alloc ?_ _ | refine nw_drew ?_ | refine nw_drewN ?_ _ | refine nw_set ?_ (by first | (simp; done) | (simp; omega) | omega) _)))), HR2⟩
end Go.Proofs.Ytcbablighgooeaa
