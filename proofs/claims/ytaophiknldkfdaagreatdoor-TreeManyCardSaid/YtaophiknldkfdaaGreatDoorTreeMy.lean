/- The law of many keys: the trial of its walk. No condition. -/
import Derived.Test.YtaophiknldkfdaaGreatDoorTreeHw
import Derived.Test.YtaophiknldkfdaaGreatDoorTreeMn
import Derived.Test.YtaophiknldkfdaaGreatDoorTreeEa
namespace Go.Proofs.YtaophiknldkfdaaGreatDoor
open Go.RowKit

set_option maxHeartbeats 400000 in
theorem within_is (i : Int) (n : Nat) (w : World) (hi : 0 ≤ i) (hi2 : i < 9223372036854775808) (hn : 0 < n) (hn2 : n < 1000) :
    Calls Tryz.prog 8 #[.int .i64 i, .int .i64 n] w fun e w' => e = .returned (.int .i64 (i % n)) ∧ w = w' := by
  have h2 : 0 ≤ i % (n : Int) := Int.emod_nonneg _ (by omega)
  have h3 : i % (n : Int) < n := Int.emod_lt_of_pos _ (by omega)
  have h0 : IntKind.u64.wrap i = i := by rw [IntKind.wrap_u64]; omega
  have h1 : i.tmod n = i % n := Int.tmod_eq_emod_of_nonneg hi
  have HW : Hid (wrap64 (i % n) = i % n) := Lib.hid (IntWalk.wrap64_in _ (by omega))
  go_enter Tryz.func8, Tryz.ntmps8
  go_wp2
  go_ret
  exact ⟨ret_int (by first | rfl | exact HW.out), rfl⟩

set_option maxRecDepth 100000 in
set_option maxHeartbeats 8000000 in
theorem treeMany_any (w : World) (v rv fv av : Value) (N L : Nat) (h : NdsW w v N) (hf : SlW fv) (ha : ActsW w av L) (hLs : L ≤ 140737488355328) (hM : ∀ j, j < 80 → manyQ KM keyM noM (20 + 13 * j % 80) (byM (j % 5)) = true) :
    Calls Tryz.prog 3 #[.agg #[v, rv, fv, av]] w fun e w' => e = .returned (.bool true) ∧ Below w.heap.size w w' := by
  have HN := Lib.hid h
  have HF := Lib.hid hf
  have HA := Lib.hid ha
  obtain ⟨hL, ap, acap, rfl, -⟩ := ha
  clear hL
  go_enter Tryz.func3, Tryz.ntmps3
  go_wp2_with fail
  refine (heavy6_any _ _ rv _ _ N L (HN.out.below (by (repeat (first | exact Below.refl _ _ | assumption | refine nw_more ?_ _ _ | refine nw_alloc ?_ _ | refine nw_drew ?_ | refine nw_drewN ?_ _ | refine nw_set ?_ (by first | (simp; done) | (simp; omega) | omega) _)))) HF.out (HA.out.below (by (repeat (first | exact Below.refl _ _ | assumption | refine nw_more ?_ _ _ | refine nw_alloc ?_ _ | refine nw_drew ?_ | refine nw_drewN ?_ _ | refine nw_set ?_ (by first | (simp; done) | (simp; omega) | omega) _))))).mono ?_
  rintro e w' ⟨⟨b, rfl⟩, hb⟩
  obtain ⟨n0, es0, rfl⟩ := below_more hb
  clear hb HN HF HA h hf
  cases b
  · have hl13 : IntKind.i64.wrap ((L : Int) * 13) = (L : Int) * 13 := IntWalk.i64_in _ (by omega)
    have hj := Nat.mod_lt L (show 0 < 80 by decide)
    have HM := Lib.hid (manyQ_parts (hM _ hj))
    clear hM
    have hr5 := Nat.mod_lt (L % 80) (show 0 < 5 by decide)
    have hq80 := Nat.mod_lt (13 * (L % 80)) (show 0 < 80 by decide)
    have hn1 : ((L : Int) * 13) % ((80 : Nat) : Int) = ((13 * (L % 80) % 80 : Nat) : Int) := by omega
    have hb1 : (L : Int) % ((5 : Nat) : Int) = ((L % 80 % 5 : Nat) : Int) := by omega
    go_wp2_with fail
    refine (within_is _ 80 _ ?h1 ?h2 (by decide) (by decide)).mono ?_
    case h1 => omega
    case h2 => omega
    rintro e w' ⟨rfl, rfl⟩
    rw [hn1]
    generalize 13 * (L % 80) % 80 = q at *
    go_wp2_with fail
    have hnq : (20 : Int) + (q : Int) = ((20 + q : Nat) : Int) := by omega
    rw [hnq]
    generalize hn20 : 20 + q = nn at *
    have hnn : nn ≤ 99 := by omega
    have hnn2 : 20 ≤ nn := by omega
    clear hnq hn20 hq80
    refine (within_is _ 5 _ ?h1 ?h2 (by decide) (by decide)).mono ?_
    case h1 => omega
    case h2 => omega
    rintro e w' ⟨rfl, rfl⟩
    rw [hb1]
    generalize L % 80 % 5 = r5 at *
    clear hn1 hb1 hj hl13
    have hcell : ((more (w.alloc (Obj.cells #[v, rv, fv, .slice ap L acap] 28)) n0 es0).alloc (Obj.cells #[.int .i64 1, .int .i64 7, .int .i64 11, .int .i64 37, .int .i64 101] 3)).cell? ⟨w.heap.size + 1 + es0.size, r5, none⟩ = some (.int .i64 (byM r5)) := by
      match r5, hr5 with
      | 0, _ => simp [go_sem, byM]
      | 1, _ => simp [go_sem, byM]
      | 2, _ => simp [go_sem, byM]
      | 3, _ => simp [go_sem, byM]
      | 4, _ => simp [go_sem, byM]
    have hr5i : (r5 : Int) < 5 := by omega
    go_wp2_with fail
    have hB1 : Below w.heap.size w ((more (w.alloc (Obj.cells #[v, rv, fv, .slice ap L acap] 28)) n0 es0).alloc (Obj.cells #[.int .i64 1, .int .i64 7, .int .i64 11, .int .i64 37, .int .i64 101] 3)) := by (repeat (first | exact Below.refl _ _ | assumption | refine nw_more ?_ _ _ | refine nw_alloc ?_ _ | refine nw_drew ?_ | refine nw_drewN ?_ _ | refine nw_set ?_ (by first | (simp; done) | (simp; omega) | omega) _))
    generalize ((more (w.alloc (Obj.cells #[v, rv, fv, .slice ap L acap] 28)) n0 es0).alloc (Obj.cells #[.int .i64 1, .int .i64 7, .int .i64 11, .int .i64 37, .int .i64 101] 3)) = W1 at *
    clear hcell hr5i
    generalize hby : byM r5 = by_ at *
    have hby1 : 1 ≤ by_ ∧ by_ ≤ 101 := by
      subst hby
      match r5, hr5 with
      | 0, _ => decide
      | 1, _ => decide
      | 2, _ => decide
      | 3, _ => decide
      | 4, _ => decide
    clear hr5 hby
    obtain ⟨t, hA, hok, hcnt, ⟨d, hdp, hd7⟩, hfd, t9, hcm, hok9, htw⟩ := HM.out
    have HA := Lib.hid hA
    have HOK := Lib.hid hok
    have HCNT := Lib.hid hcnt
    have HDP := Lib.hid hdp
    have HFD := Lib.hid hfd
    have HCM := Lib.hid hcm
    have HOK9 := Lib.hid hok9
    have HTW := Lib.hid htw
    clear HM hA hok hcnt hdp hfd hcm hok9 htw
    refine (new_any KM _).mono ?_
    rintro e w' ⟨nv, x, rfl, ho, hxn, hb⟩
    have HIN := Lib.hid ho.inn
    obtain ⟨np, nc, rfl, -⟩ := ho.inn.slice
    obtain ⟨n1, es1, rfl⟩ := below_more hb
    clear ho hb
    have HB0 : Hid (Below w.heap.size w ((more W1 n1 es1).alloc (Obj.cells #[.slice np 1 nc, .int .i64 0, .slice none 0 0] 25))) := Lib.hid (nw_alloc (nw_more hB1 _ _) _)
    have HX0 : Hid (Blc ((more W1 n1 es1).alloc (Obj.cells #[.slice np 1 nc, .int .i64 0, .slice none 0 0] 25)) (W1.heap.size + es1.size) 25 #[.slice np 1 nc, .int .i64 0, .slice none 0 0]) := Lib.hid (Blc.newAt _ _ _ (by simp))
    have HI0 : Hid (TreeIn KM 0 ((more W1 n1 es1).alloc (Obj.cells #[.slice np 1 nc, .int .i64 0, .slice none 0 0] 25)) (.slice np 1 nc) (.slice none 0 0) [x] []) := Lib.hid (TreeIn.mono ⟨HIN.out.below (nw_alloc (Below.refl _ _) _), IntsIn.nil _ _⟩ (Nat.zero_le _))
    have HA0 : Hid (addsQ KM keyM (ordBy nn by_) (nn - 0) 0 (Tr.mk (ndsOf [x]) 0 []) = some t) := Lib.hid (by
      rw [show ndsOf [x] = [⟨[], [], [], true⟩] by simp [ndsOf, hxn]]
      exact HA.out)
    have htb : w.heap.size ≤ W1.heap.size + es1.size := Nat.le_trans hB1.size (Nat.le_add_right _ _)
    go_upto_region 7 with (fail)
    clear HIN HA hxn hB1
    generalize ((more W1 n1 es1).alloc (Obj.cells #[.slice np 1 nc, .int .i64 0, .slice none 0 0] 25)) = W0 at *
    generalize W1.heap.size + es1.size = tb at *
    go_loopg [6] (nn + 1) (fun g s6 wr => ∃ i : Nat, i ≤ nn ∧ g + i = nn + 1 ∧ s6 = .int .i64 i ∧ ∃ (np fp : Option Addr) (nc fc : Nat) (r : Int) (P : List (Nv (Fin 101))) (F : List Int), Hid (addsQ KM keyM (ordBy nn by_) (nn - i) i (Tr.mk (ndsOf P) r F) = some t) ∧ Hid (TreeIn KM 0 wr (.slice np P.length nc) (.slice fp F.length fc) P F) ∧ Hid (Blc wr tb 25 #[.slice np P.length nc, .int .i64 r, .slice fp F.length fc]) ∧ Hid (Below w.heap.size w wr))
    case atStart => exact ⟨0, Nat.zero_le _, by omega, rfl, np, none, nc, 0, 0, [x], [], HA0, HI0, HX0, HB0⟩
    case round =>
      obtain ⟨i, hi, hg, rfl, np1, fp, nc1, fc, r, P, F, HA, HI, HX, HB⟩ := hrel
      obtain rfl : gk = nn + 1 - i := by omega
      clear hg HA0 HI0 HX0 HB0
      have x0 := HX.out.cell 0
      have x1 := HX.out.cell 1
      have x2 := HX.out.cell 2
      have xl : Lt tb wr.heap.size := HX.out.lt
      have g0 := HX.out.free 0
      have g1 := HX.out.free 1
      have g2 := HX.out.free 2
      simp only [List.getElem?_toArray, List.getElem?_cons_succ, List.getElem?_cons_zero] at x0 x1 x2
      by_cases hlt : i < nn
      · have hA2 := HA.out
        rw [show nn - i = (nn - (i + 1)) + 1 by omega] at hA2
        obtain ⟨hk1, t2, hadd, hk2, hrest⟩ := addsQ_step hA2
        obtain ⟨hp500, hf500, hlens, -⟩ := okT_parts hk1
        have HK2 := Lib.hid hk2
        have HREST := Lib.hid hrest
        have HLENS := Lib.hid hlens
        have hkn := ordBy_lt (by_ := by_) hlt
        have hin2 : (i : Int) < (nn : Int) := by omega
        obtain ⟨X, hX⟩ : ∃ X : Nat, X = i * by_ % nn := ⟨_, rfl⟩
        obtain ⟨Y, hY⟩ : ∃ Y : Nat, Y = nn % by_ := ⟨_, rfl⟩
        have hXl : X < nn := by rw [hX]; exact Nat.mod_lt _ (by omega)
        have hYl : Y < by_ := by rw [hY]; exact Nat.mod_lt _ (by omega)
        have hord : ordBy nn by_ i = if Y = 0 then i else X := by unfold ordBy; rw [← hX, ← hY]
        have hml : i * by_ ≤ 99 * 101 := Nat.mul_le_mul (by omega) (by omega)
        have hmi : (i : Int) * (by_ : Int) = ((i * by_ : Nat) : Int) := (Int.natCast_mul i by_).symm
        have hwm : IntKind.i64.wrap ((i : Int) * (by_ : Int)) = (i : Int) * (by_ : Int) := IntWalk.i64_in _ (by rw [hmi]; omega)
        have hr1 : ((i : Int) * (by_ : Int)).tmod (nn : Int) = (X : Int) := by rw [hmi, hX, Int.tmod_eq_emod_of_nonneg (by omega)]; exact (Int.natCast_emod _ _).symm
        have hr2 : ((nn : Int)).tmod (by_ : Int) = (Y : Int) := by rw [hY, Int.tmod_eq_emod_of_nonneg (by omega)]; exact (Int.natCast_emod _ _).symm
        have hz1 : ¬ (nn : Int) = 0 := by omega
        have hz2 : ¬ (by_ : Int) = 0 := by omega
        clear hA2 hk1 hk2 hrest hlens hmi hX hY hml
        by_cases hY0 : Y = 0
        · subst hY0
          rw [if_pos rfl] at hord
          rw [hord] at hadd hkn
          have HADD := Lib.hid hadd
          clear hadd hord
          have HKE := Lib.hid (keyM_is i (by omega))
          have HDG0 : Hid (∀ w9 : World, Calls Tryz.prog 11 #[.int .i64 (1000 + (i : Int))] w9 fun e w' => e = .returned (.string ⟨(digL 4 (1000 + i)).toArray⟩) ∧ Below w9.heap.size w9 w') := Lib.hid (fun w9 => by
            have := digits_any w9 (1000 + i) (by omega)
            rwa [show ((1000 + i : Nat) : Int) = 1000 + (i : Int) by omega] at this)
          generalize (⟨(digL 4 (1000 + i)).toArray⟩ : ByteArray) = D at *
          have HDG := HDG0
          have hDs : D.size ≤ 140737488355328 := by
            have h1 := KM.hsz (keyM i)
            rw [HKE.out, ByteArray.size_append] at h1
            omega
          have hsl : ¬ 9223372036854775807 < 1 + D.size := by omega
          have HIW := Lib.hid (fun (w9 : World) (hb : Below wr.heap.size wr w9) => by
            have h := add_any KM 0 w9 _ _ r P F (keyM i) (i : Int) t2 (HI.out.below hb) HLENS.out hp500 hf500 (by
              have h2 := HK2.out
              unfold okT at h2
              simp only [Bool.and_eq_true, decide_eq_true_eq] at h2
              exact h2.2.1) HADD.out
            rw [HKE.out] at h
            exact h)
          clear HDG0
          have hw1 : IntKind.i64.wrap (1000 + (i : Int)) = 1000 + (i : Int) := IntWalk.i64_in _ (by omega)
          go_upto_region 12 with (fail)
          obtain ⟨C0, hC0⟩ : ∃ C0 : World → Prop, ∀ w9, C0 w9 ↔ (w9.cell? ⟨tb, 0, none⟩ = some (.slice np1 P.length nc1) ∧ w9.cell? ⟨tb, 1, none⟩ = some (.int .i64 r) ∧ w9.cell? ⟨tb, 2, none⟩ = some (.slice fp F.length fc)) := ⟨_, fun _ => Iff.rfl⟩
          have hCall : ∀ m w9, RgPost KM wr t2 D (.int .i64 0) undef m w9 → C0 w9 := fun m w9 hp => (hC0 _).2 ⟨(hp.1.cell (p := ⟨tb, 0, none⟩) xl).trans x0, (hp.1.cell (p := ⟨tb, 1, none⟩) xl).trans x1, (hp.1.cell (p := ⟨tb, 2, none⟩) xl).trans x2⟩
          refine wp_region_par [3, 6, 10, 11, 12] [#[.tmp 58], #[.tmp 56, .tmp 60, .tmp 61], #[], #[.tmp 8, .tmp 63], #[.tmp 64]] (fun t j => (t == 1 && j == 0) || (t == 3 && decide (j < 3)) || (t == 4 && decide (j < 4))) (by kernel_rfl) (by kernel_rfl) (fun m => by kernel_rfl) (fun w9 => ∃ p : Among C0, w9 = p.w) (fun t m => match t with
            | 0 => #[.int .i64 (1000 + (i : Int))]
            | 1 => #[.agg #[.slice np1 P.length nc1, .int .i64 r, .slice fp F.length fc], .string ((⟨#[107]⟩ : ByteArray) ++ D), .int .i64 i]
            | 2 => #[]
            | 3 => #[(m 2).getD undef, fstV ((m 1).getD undef)]
            | _ => #[sndV ((m 1).getD undef)]) (RgPost KM wr t2 D (.int .i64 0) undef) (rg_start wr) (fun m w9 hp _ => ⟨⟨w9, hCall m w9 hp⟩, rfl⟩) (fun m w9 hp => ?hfull) (fun t m m' ht hpre hext => ?hdep) ?hstep ?hwalk
          case hfull =>
            obtain ⟨m', w', h1, h2, h3⟩ := rg_full hp (fun w9 hb => by
              obtain ⟨e, w', fr, ho, -⟩ := HIW.out w9 hb []
              exact ⟨e, w', ho⟩)
            exact ⟨m', w', h1, fun t ht => h2 t (by have : t < 5 := ht; omega), h3⟩
          case hdep =>
            match t, ht with
            | 0, _ => rfl
            | 1, _ => rfl
            | 2, _ => rfl
            | 3, _ =>
              obtain ⟨x, hx⟩ := Option.ne_none_iff_exists'.1 (hpre 1 (by decide) rfl)
              obtain ⟨y, hy⟩ := Option.ne_none_iff_exists'.1 (hpre 2 (by decide) rfl)
              simp only [hx, hy, hext _ _ hx, hext _ _ hy]
            | 4, _ =>
              obtain ⟨x, hx⟩ := Option.ne_none_iff_exists'.1 (hpre 1 (by decide) rfl)
              simp only [hx, hext _ _ hx]
          case hstep =>
            intro t m w9 o hp ht hmt hpre ho a next hargs hn
            match t, ht with
            | 0, _ =>
              obtain rfl := Option.some.inj ho
              have e1 : a.eval (.tmp 58) = .int .i64 (1000 + (i : Int)) := by simpa using congrArg (fun (x : Array Value) => x.getD 0 undef) hargs
              unfold Oper.wp execOp
              have e2 : a.tmps[58]?.getD undef = .int .i64 (1000 + (i : Int)) := by simpa [go_sem] using e1
              simp [e2, go_sem]
              refine (HDG.out w9).mono ?_
              rintro e w' ⟨rfl, hb⟩
              exact hn _ _ (rg_dig hp hmt hb)
            | 1, _ =>
              obtain rfl := Option.some.inj ho
              have e1 : a.eval (.tmp 56) = .agg #[.slice np1 P.length nc1, .int .i64 r, .slice fp F.length fc] := by simpa using congrArg (fun (x : Array Value) => x.getD 0 undef) hargs
              have e2 : a.eval (.tmp 60) = .string ((⟨#[107]⟩ : ByteArray) ++ D) := by simpa using congrArg (fun (x : Array Value) => x.getD 1 undef) hargs
              have e3 : a.eval (.tmp 61) = .int .i64 i := by simpa using congrArg (fun (x : Array Value) => x.getD 2 undef) hargs
              unfold Oper.wp execOp
              have e4 : a.tmps[56]?.getD undef = .agg #[.slice np1 P.length nc1, .int .i64 r, .slice fp F.length fc] := by simpa [go_sem] using e1
              have e5 : a.tmps[60]?.getD undef = .string ((⟨#[107]⟩ : ByteArray) ++ D) := by simpa [go_sem] using e2
              have e6 : a.tmps[61]?.getD undef = .int .i64 i := by simpa [go_sem] using e3
              simp [e4, e5, e6, go_sem]
              refine (HIW.out w9 hp.1).mono ?_
              intro e w' ho2
              obtain ⟨x, rfl, hp2⟩ := rg_call hp hmt (hpre 0 (by decide) rfl) ho2
              exact hn _ _ hp2
            | 2, _ =>
              obtain rfl := Option.some.inj ho
              unfold Oper.wp execOp
              simp [go_sem]
              exact hn _ _ (rg_new hp hmt _ _ _)
            | 3, _ =>
              obtain rfl := Option.some.inj ho
              obtain ⟨xx, hx⟩ := Option.ne_none_iff_exists'.1 (hpre 1 (by decide) rfl)
              obtain ⟨yy, hy⟩ := Option.ne_none_iff_exists'.1 (hpre 2 (by decide) rfl)
              obtain ⟨v', u', P', rfl, -, hin', -⟩ := hp.2.2.2.2.1 xx hx
              obtain ⟨g, rfl, hgw, ⟨c0, c1, c2, hbl⟩, -⟩ := hp.2.2.2.2.2.1 yy hy
              obtain ⟨vp, vc, rfl, -⟩ := hin'.1.slice
              obtain ⟨up, uc, rfl, -⟩ := hin'.2.slice
              have e1 : a.eval (.tmp 8) = .pointer (some ⟨g, 0, none⟩) := by
                have := congrArg (fun (x : Array Value) => x.getD 0 undef) hargs
                simpa [hy] using this
              have e2 : a.eval (.tmp 63) = .agg #[.slice vp P'.length vc, .int .i64 t2.root, .slice up t2.free.length uc] := by
                have := congrArg (fun (x : Array Value) => x.getD 1 undef) hargs
                simpa [hx, T2, fstV] using this
              have s0 := hbl.cell 0
              have s1 := hbl.cell 1
              have s2 := hbl.cell 2
              have f0 := hbl.free 0
              have f1 := hbl.free 1
              have f2 := hbl.free 2
              have sl := hbl.lt
              simp only [List.getElem?_toArray, List.getElem?_cons_succ, List.getElem?_cons_zero] at s0 s1 s2
              unfold Oper.wp execOp
              have e3 : a.tmps[8]?.getD undef = .pointer (some ⟨g, 0, none⟩) := by simpa [go_sem] using e1
              have e4 : a.tmps[63]?.getD undef = .agg #[.slice vp P'.length vc, .int .i64 t2.root, .slice up t2.free.length uc] := by simpa [go_sem] using e2
              simp [e3, e4, s0, s1, s2, f0, f1, f2, go_sem]
              exact hn undef _ (rg_store hp hmt hx hy)
            | 4, _ =>
              obtain rfl := Option.some.inj ho
              obtain ⟨xx, hx⟩ := Option.ne_none_iff_exists'.1 (hpre 1 (by decide) rfl)
              obtain ⟨v', u', P', rfl, -⟩ := hp.2.2.2.2.1 xx hx
              have e1 : a.eval (.tmp 64) = .int .i64 0 := by
                have := congrArg (fun (x : Array Value) => x.getD 0 undef) hargs
                simpa [hx, T2, sndV] using this
              unfold Oper.wp execOp
              have e3 : a.tmps[64]?.getD undef = .int .i64 0 := by simpa [go_sem] using e1
              simp [e3, go_sem]
              exact hn _ _ (rg_four hp)
          case hwalk =>
            intro m w9 hp hF
            obtain ⟨v0, h0⟩ := Option.ne_none_iff_exists'.1 (hF 0 (by decide))
            obtain ⟨v1, h1⟩ := Option.ne_none_iff_exists'.1 (hF 1 (by decide))
            obtain ⟨v2, h2⟩ := Option.ne_none_iff_exists'.1 (hF 2 (by decide))
            obtain ⟨v3, h3⟩ := Option.ne_none_iff_exists'.1 (hF 3 (by decide))
            obtain ⟨v4, h4⟩ := Option.ne_none_iff_exists'.1 (hF 4 (by decide))
            obtain ⟨a1, -, -, a4, a5, a6, a7, -, a9⟩ := hp
            obtain rfl := a4 v0 h0
            obtain ⟨v', u', P', rfl, hnd, hin', -⟩ := a5 v1 h1
            obtain ⟨g, rfl, hgw, -, hbl⟩ := a6 v2 h2
            obtain rfl := a9 v3 h3
            obtain rfl := a7 v4 h4
            have hbl2 := hbl (by rw [h3]; simp) v' u' h1
            obtain ⟨vp, vc, rfl, -⟩ := hin'.1.slice
            obtain ⟨up, uc, rfl, -⟩ := hin'.2.slice
            have HBL := Lib.hid hbl2
            have HIN := Lib.hid hin'
            have HB9 := Lib.hid a1
            have HND := Lib.hid hnd
            have HGW := Lib.hid hgw
            clear a1 a4 a5 a6 a7 a9 hbl hbl2 hin' hnd hgw
            simp only [opsP, dumP, posOf, Nat.reduceAdd, Nat.reduceEqDiff, if_false, if_true, Option.map_none, Option.map_some, h0, h1, h2, h3, h4, Option.getD_some, T2]
            have c0 : ∀ p : Among C0, p.w.cell? ⟨tb, 0, none⟩ = some (.slice np1 P.length nc1) := fun p => ((hC0 _).1 p.ok).1
            have c1 : ∀ p : Among C0, p.w.cell? ⟨tb, 1, none⟩ = some (.int .i64 r) := fun p => ((hC0 _).1 p.ok).2.1
            have c2 : ∀ p : Among C0, p.w.cell? ⟨tb, 2, none⟩ = some (.slice fp F.length fc) := fun p => ((hC0 _).1 p.ok).2.2
            have hinh : Nonempty (Among C0) := ⟨⟨wr, (hC0 _).2 ⟨x0, x1, x2⟩⟩⟩
            (repeat (first | go_big_quiet_skip | quiet_step (fail)))
            refine ⟨fun j hj => ?_, ?_⟩
            · match j, hj with
              | 0, _ => simp [go_sem]
              | 1, _ => simp [go_sem]
              | 2, _ => simp [go_sem]
              | 3, _ => simp [go_sem, h1, h2, T2, fstV]
              | 4, _ => simp [go_sem, h1, T2, sndV]
            · clear c0 c1 c2 hinh hCall hC0 h0 h1 h2 h3 h4 hF HDG HIW hsl hw1
              have y0 := HBL.out.cell 0
              have y1 := HBL.out.cell 1
              have y2 := HBL.out.cell 2
              have yl : Lt g w9.heap.size := HBL.out.lt
              have HX9 := Lib.hid (HX.out.below HB9.out)
              have z0 := HX9.out.cell 0
              have z1 := HX9.out.cell 1
              have z2 := HX9.out.cell 2
              have q0 := HX9.out.free 0
              have q1 := HX9.out.free 1
              have q2 := HX9.out.free 2
              have zl : Lt tb w9.heap.size := HX9.out.lt
              simp only [List.getElem?_toArray, List.getElem?_cons_succ, List.getElem?_cons_zero] at y0 y1 y2 z0 z1 z2
              go_wp2_with (first | (go_at_call 12; refine (num6_any _ _).mono ?_; rintro e w' ⟨rfl, rfl⟩))
              go_roundg (nn + 1 - i - 1)
              case measure => omega
              case rel =>
                have hgt : tb < wr.heap.size := xl
                have hst : ∀ (W : World) (j : Nat) (x : Value), TreeIn KM wr.heap.size W (.slice vp P'.length vc) (.slice up t2.free.length uc) P' t2.free → TreeIn KM wr.heap.size (W.setCell ⟨tb, j, none⟩ x) (.slice vp P'.length vc) (.slice up t2.free.length uc) P' t2.free := fun W j x h => h.stays (Stays.set (a := ⟨tb, j, none⟩) hgt x)
                refine ⟨i + 1, by omega, by omega, by go_num, vp, up, vc, uc, t2.root, P', t2.free, ?_, Lib.hid ?_, Lib.hid ?_, Lib.hid ?_⟩
                · have e : Tr.mk (ndsOf P') t2.root t2.free = t2 := by rw [HND.out]
                  rw [e]
                  exact HREST
                · exact (hst _ _ _ (hst _ _ _ (hst _ _ _ HIN.out))).mono (Nat.zero_le _)
                · exact ((HX9.out.set 0 _).set 1 _).set 2 _
                · have hbel := nw_trans HB.out HB9.out
                  exact nw_set (nw_set (nw_set hbel (by show w.heap.size ≤ tb; omega) _) (by show w.heap.size ≤ tb; omega) _) (by show w.heap.size ≤ tb; omega) _
        · rw [if_neg hY0] at hord
          rw [hord] at hadd hkn
          have HADD := Lib.hid hadd
          have hY1 : ¬ (Y : Int) = 0 := by omega
          clear hadd hord
          have HKE := Lib.hid (keyM_is X (by omega))
          have HDG0 : Hid (∀ w9 : World, Calls Tryz.prog 11 #[.int .i64 (1000 + (X : Int))] w9 fun e w' => e = .returned (.string ⟨(digL 4 (1000 + X)).toArray⟩) ∧ Below w9.heap.size w9 w') := Lib.hid (fun w9 => by
            have := digits_any w9 (1000 + X) (by omega)
            rwa [show ((1000 + X : Nat) : Int) = 1000 + (X : Int) by omega] at this)
          generalize (⟨(digL 4 (1000 + X)).toArray⟩ : ByteArray) = D at *
          have HDG := HDG0
          have hDs : D.size ≤ 140737488355328 := by
            have h1 := KM.hsz (keyM X)
            rw [HKE.out, ByteArray.size_append] at h1
            omega
          have hsl : ¬ 9223372036854775807 < 1 + D.size := by omega
          have HIW := Lib.hid (fun (w9 : World) (hb : Below wr.heap.size wr w9) => by
            have h := add_any KM 0 w9 _ _ r P F (keyM X) (X : Int) t2 (HI.out.below hb) HLENS.out hp500 hf500 (by
              have h2 := HK2.out
              unfold okT at h2
              simp only [Bool.and_eq_true, decide_eq_true_eq] at h2
              exact h2.2.1) HADD.out
            rw [HKE.out] at h
            exact h)
          clear HDG0
          have hw1 : IntKind.i64.wrap (1000 + (X : Int)) = 1000 + (X : Int) := IntWalk.i64_in _ (by omega)
          go_upto_region 12 with (fail)
          obtain ⟨C0, hC0⟩ : ∃ C0 : World → Prop, ∀ w9, C0 w9 ↔ (w9.cell? ⟨tb, 0, none⟩ = some (.slice np1 P.length nc1) ∧ w9.cell? ⟨tb, 1, none⟩ = some (.int .i64 r) ∧ w9.cell? ⟨tb, 2, none⟩ = some (.slice fp F.length fc)) := ⟨_, fun _ => Iff.rfl⟩
          have hCall : ∀ m w9, RgPost KM wr t2 D (.int .i64 0) undef m w9 → C0 w9 := fun m w9 hp => (hC0 _).2 ⟨(hp.1.cell (p := ⟨tb, 0, none⟩) xl).trans x0, (hp.1.cell (p := ⟨tb, 1, none⟩) xl).trans x1, (hp.1.cell (p := ⟨tb, 2, none⟩) xl).trans x2⟩
          refine wp_region_par [3, 6, 10, 11, 12] [#[.tmp 58], #[.tmp 56, .tmp 60, .tmp 61], #[], #[.tmp 8, .tmp 63], #[.tmp 64]] (fun t j => (t == 1 && j == 0) || (t == 3 && decide (j < 3)) || (t == 4 && decide (j < 4))) (by kernel_rfl) (by kernel_rfl) (fun m => by kernel_rfl) (fun w9 => ∃ p : Among C0, w9 = p.w) (fun t m => match t with
            | 0 => #[.int .i64 (1000 + (X : Int))]
            | 1 => #[.agg #[.slice np1 P.length nc1, .int .i64 r, .slice fp F.length fc], .string ((⟨#[107]⟩ : ByteArray) ++ D), .int .i64 X]
            | 2 => #[]
            | 3 => #[(m 2).getD undef, fstV ((m 1).getD undef)]
            | _ => #[sndV ((m 1).getD undef)]) (RgPost KM wr t2 D (.int .i64 0) undef) (rg_start wr) (fun m w9 hp _ => ⟨⟨w9, hCall m w9 hp⟩, rfl⟩) (fun m w9 hp => ?hfull) (fun t m m' ht hpre hext => ?hdep) ?hstep ?hwalk
          case hfull =>
            obtain ⟨m', w', h1, h2, h3⟩ := rg_full hp (fun w9 hb => by
              obtain ⟨e, w', fr, ho, -⟩ := HIW.out w9 hb []
              exact ⟨e, w', ho⟩)
            exact ⟨m', w', h1, fun t ht => h2 t (by have : t < 5 := ht; omega), h3⟩
          case hdep =>
            match t, ht with
            | 0, _ => rfl
            | 1, _ => rfl
            | 2, _ => rfl
            | 3, _ =>
              obtain ⟨x, hx⟩ := Option.ne_none_iff_exists'.1 (hpre 1 (by decide) rfl)
              obtain ⟨y, hy⟩ := Option.ne_none_iff_exists'.1 (hpre 2 (by decide) rfl)
              simp only [hx, hy, hext _ _ hx, hext _ _ hy]
            | 4, _ =>
              obtain ⟨x, hx⟩ := Option.ne_none_iff_exists'.1 (hpre 1 (by decide) rfl)
              simp only [hx, hext _ _ hx]
          case hstep =>
            intro t m w9 o hp ht hmt hpre ho a next hargs hn
            match t, ht with
            | 0, _ =>
              obtain rfl := Option.some.inj ho
              have e1 : a.eval (.tmp 58) = .int .i64 (1000 + (X : Int)) := by simpa using congrArg (fun (x : Array Value) => x.getD 0 undef) hargs
              unfold Oper.wp execOp
              have e2 : a.tmps[58]?.getD undef = .int .i64 (1000 + (X : Int)) := by simpa [go_sem] using e1
              simp [e2, go_sem]
              refine (HDG.out w9).mono ?_
              rintro e w' ⟨rfl, hb⟩
              exact hn _ _ (rg_dig hp hmt hb)
            | 1, _ =>
              obtain rfl := Option.some.inj ho
              have e1 : a.eval (.tmp 56) = .agg #[.slice np1 P.length nc1, .int .i64 r, .slice fp F.length fc] := by simpa using congrArg (fun (x : Array Value) => x.getD 0 undef) hargs
              have e2 : a.eval (.tmp 60) = .string ((⟨#[107]⟩ : ByteArray) ++ D) := by simpa using congrArg (fun (x : Array Value) => x.getD 1 undef) hargs
              have e3 : a.eval (.tmp 61) = .int .i64 X := by simpa using congrArg (fun (x : Array Value) => x.getD 2 undef) hargs
              unfold Oper.wp execOp
              have e4 : a.tmps[56]?.getD undef = .agg #[.slice np1 P.length nc1, .int .i64 r, .slice fp F.length fc] := by simpa [go_sem] using e1
              have e5 : a.tmps[60]?.getD undef = .string ((⟨#[107]⟩ : ByteArray) ++ D) := by simpa [go_sem] using e2
              have e6 : a.tmps[61]?.getD undef = .int .i64 X := by simpa [go_sem] using e3
              simp [e4, e5, e6, go_sem]
              refine (HIW.out w9 hp.1).mono ?_
              intro e w' ho2
              obtain ⟨x, rfl, hp2⟩ := rg_call hp hmt (hpre 0 (by decide) rfl) ho2
              exact hn _ _ hp2
            | 2, _ =>
              obtain rfl := Option.some.inj ho
              unfold Oper.wp execOp
              simp [go_sem]
              exact hn _ _ (rg_new hp hmt _ _ _)
            | 3, _ =>
              obtain rfl := Option.some.inj ho
              obtain ⟨xx, hx⟩ := Option.ne_none_iff_exists'.1 (hpre 1 (by decide) rfl)
              obtain ⟨yy, hy⟩ := Option.ne_none_iff_exists'.1 (hpre 2 (by decide) rfl)
              obtain ⟨v', u', P', rfl, -, hin', -⟩ := hp.2.2.2.2.1 xx hx
              obtain ⟨g, rfl, hgw, ⟨c0, c1, c2, hbl⟩, -⟩ := hp.2.2.2.2.2.1 yy hy
              obtain ⟨vp, vc, rfl, -⟩ := hin'.1.slice
              obtain ⟨up, uc, rfl, -⟩ := hin'.2.slice
              have e1 : a.eval (.tmp 8) = .pointer (some ⟨g, 0, none⟩) := by
                have := congrArg (fun (x : Array Value) => x.getD 0 undef) hargs
                simpa [hy] using this
              have e2 : a.eval (.tmp 63) = .agg #[.slice vp P'.length vc, .int .i64 t2.root, .slice up t2.free.length uc] := by
                have := congrArg (fun (x : Array Value) => x.getD 1 undef) hargs
                simpa [hx, T2, fstV] using this
              have s0 := hbl.cell 0
              have s1 := hbl.cell 1
              have s2 := hbl.cell 2
              have f0 := hbl.free 0
              have f1 := hbl.free 1
              have f2 := hbl.free 2
              have sl := hbl.lt
              simp only [List.getElem?_toArray, List.getElem?_cons_succ, List.getElem?_cons_zero] at s0 s1 s2
              unfold Oper.wp execOp
              have e3 : a.tmps[8]?.getD undef = .pointer (some ⟨g, 0, none⟩) := by simpa [go_sem] using e1
              have e4 : a.tmps[63]?.getD undef = .agg #[.slice vp P'.length vc, .int .i64 t2.root, .slice up t2.free.length uc] := by simpa [go_sem] using e2
              simp [e3, e4, s0, s1, s2, f0, f1, f2, go_sem]
              exact hn undef _ (rg_store hp hmt hx hy)
            | 4, _ =>
              obtain rfl := Option.some.inj ho
              obtain ⟨xx, hx⟩ := Option.ne_none_iff_exists'.1 (hpre 1 (by decide) rfl)
              obtain ⟨v', u', P', rfl, -⟩ := hp.2.2.2.2.1 xx hx
              have e1 : a.eval (.tmp 64) = .int .i64 0 := by
                have := congrArg (fun (x : Array Value) => x.getD 0 undef) hargs
                simpa [hx, T2, sndV] using this
              unfold Oper.wp execOp
              have e3 : a.tmps[64]?.getD undef = .int .i64 0 := by simpa [go_sem] using e1
              simp [e3, go_sem]
              exact hn _ _ (rg_four hp)
          case hwalk =>
            intro m w9 hp hF
            obtain ⟨v0, h0⟩ := Option.ne_none_iff_exists'.1 (hF 0 (by decide))
            obtain ⟨v1, h1⟩ := Option.ne_none_iff_exists'.1 (hF 1 (by decide))
            obtain ⟨v2, h2⟩ := Option.ne_none_iff_exists'.1 (hF 2 (by decide))
            obtain ⟨v3, h3⟩ := Option.ne_none_iff_exists'.1 (hF 3 (by decide))
            obtain ⟨v4, h4⟩ := Option.ne_none_iff_exists'.1 (hF 4 (by decide))
            obtain ⟨a1, -, -, a4, a5, a6, a7, -, a9⟩ := hp
            obtain rfl := a4 v0 h0
            obtain ⟨v', u', P', rfl, hnd, hin', -⟩ := a5 v1 h1
            obtain ⟨g, rfl, hgw, -, hbl⟩ := a6 v2 h2
            obtain rfl := a9 v3 h3
            obtain rfl := a7 v4 h4
            have hbl2 := hbl (by rw [h3]; simp) v' u' h1
            obtain ⟨vp, vc, rfl, -⟩ := hin'.1.slice
            obtain ⟨up, uc, rfl, -⟩ := hin'.2.slice
            have HBL := Lib.hid hbl2
            have HIN := Lib.hid hin'
            have HB9 := Lib.hid a1
            have HND := Lib.hid hnd
            have HGW := Lib.hid hgw
            clear a1 a4 a5 a6 a7 a9 hbl hbl2 hin' hnd hgw
            simp only [opsP, dumP, posOf, Nat.reduceAdd, Nat.reduceEqDiff, if_false, if_true, Option.map_none, Option.map_some, h0, h1, h2, h3, h4, Option.getD_some, T2]
            have c0 : ∀ p : Among C0, p.w.cell? ⟨tb, 0, none⟩ = some (.slice np1 P.length nc1) := fun p => ((hC0 _).1 p.ok).1
            have c1 : ∀ p : Among C0, p.w.cell? ⟨tb, 1, none⟩ = some (.int .i64 r) := fun p => ((hC0 _).1 p.ok).2.1
            have c2 : ∀ p : Among C0, p.w.cell? ⟨tb, 2, none⟩ = some (.slice fp F.length fc) := fun p => ((hC0 _).1 p.ok).2.2
            have hinh : Nonempty (Among C0) := ⟨⟨wr, (hC0 _).2 ⟨x0, x1, x2⟩⟩⟩
            (repeat (first | go_big_quiet_skip | quiet_step (fail)))
            refine ⟨fun j hj => ?_, ?_⟩
            · match j, hj with
              | 0, _ => simp [go_sem]
              | 1, _ => simp [go_sem]
              | 2, _ => simp [go_sem]
              | 3, _ => simp [go_sem, h1, h2, T2, fstV]
              | 4, _ => simp [go_sem, h1, T2, sndV]
            · clear c0 c1 c2 hinh hCall hC0 h0 h1 h2 h3 h4 hF HDG HIW hsl hw1
              have y0 := HBL.out.cell 0
              have y1 := HBL.out.cell 1
              have y2 := HBL.out.cell 2
              have yl : Lt g w9.heap.size := HBL.out.lt
              have HX9 := Lib.hid (HX.out.below HB9.out)
              have z0 := HX9.out.cell 0
              have z1 := HX9.out.cell 1
              have z2 := HX9.out.cell 2
              have q0 := HX9.out.free 0
              have q1 := HX9.out.free 1
              have q2 := HX9.out.free 2
              have zl : Lt tb w9.heap.size := HX9.out.lt
              simp only [List.getElem?_toArray, List.getElem?_cons_succ, List.getElem?_cons_zero] at y0 y1 y2 z0 z1 z2
              go_wp2_with (first | (go_at_call 12; refine (num6_any _ _).mono ?_; rintro e w' ⟨rfl, rfl⟩))
              go_roundg (nn + 1 - i - 1)
              case measure => omega
              case rel =>
                have hgt : tb < wr.heap.size := xl
                have hst : ∀ (W : World) (j : Nat) (x : Value), TreeIn KM wr.heap.size W (.slice vp P'.length vc) (.slice up t2.free.length uc) P' t2.free → TreeIn KM wr.heap.size (W.setCell ⟨tb, j, none⟩ x) (.slice vp P'.length vc) (.slice up t2.free.length uc) P' t2.free := fun W j x h => h.stays (Stays.set (a := ⟨tb, j, none⟩) hgt x)
                refine ⟨i + 1, by omega, by omega, by go_num, vp, up, vc, uc, t2.root, P', t2.free, ?_, Lib.hid ?_, Lib.hid ?_, Lib.hid ?_⟩
                · have e : Tr.mk (ndsOf P') t2.root t2.free = t2 := by rw [HND.out]
                  rw [e]
                  exact HREST
                · exact (hst _ _ _ (hst _ _ _ (hst _ _ _ HIN.out))).mono (Nat.zero_le _)
                · exact ((HX9.out.set 0 _).set 1 _).set 2 _
                · have hbel := nw_trans HB.out HB9.out
                  exact nw_set (nw_set (nw_set hbel (by show w.heap.size ≤ tb; omega) _) (by show w.heap.size ≤ tb; omega) _) (by show w.heap.size ≤ tb; omega) _
      · obtain rfl : i = nn := by omega
        have hnlt : ¬ (i : Int) < (i : Int) := by omega
        have hT : Tr.mk (ndsOf P) r F = t := by
          have h := HA.out
          rw [Nat.sub_self] at h
          exact Option.some.inj h
        subst hT
        obtain ⟨hp500, hf500, hlens, hsm⟩ := okT_parts HOK.out
        have HLENS := Lib.hid hlens
        have hdd : ¬ (7 : Int) < (d : Int) := by omega
        clear HA HOK hlens hsm hlt hi
        go_wp2_with fail
        refine (count_any KM 0 _ _ _ r P F i HI.out hp500 (fun y hy => (HLENS.out y hy).2.1) HCNT.out).mono ?_
        rintro e w' ⟨rfl, hb⟩
        obtain ⟨n2, es2, rfl⟩ := below_more hb
        clear hb
        go_wp2_with fail
        refine (deep_any KM 0 _ _ _ r P F noM d (HI.out.below (by (repeat (first | exact Below.refl _ _ | assumption | refine nw_more ?_ _ _ | refine nw_alloc ?_ _ | refine nw_drew ?_ | refine nw_drewN ?_ _ | refine nw_set ?_ (by first | (simp; done) | (simp; omega) | omega) _)))) noM_is HDP.out).mono ?_
        rintro e w' ⟨rfl, hb⟩
        obtain ⟨n3, es3, rfl⟩ := below_more hb
        clear hb
        go_upto_region 21 with (first | (go_at_call 12; refine (num6_any _ _).mono ?_; rintro e w' ⟨rfl, rfl⟩))
        have HX2 : Hid (Blc (more (more wr n2 es2) n3 es3) tb 25 #[.slice np1 P.length nc1, .int .i64 r, .slice fp F.length fc]) := Lib.hid ((HX.out.mre _ _).mre _ _)
        have HI2 : Hid (TreeIn KM 0 (more (more wr n2 es2) n3 es3) (.slice np1 P.length nc1) (.slice fp F.length fc) P F) := Lib.hid (HI.out.below (nw_more (nw_more (Below.refl _ _) _ _) _ _))
        have HB2 : Hid (Below w.heap.size w (more (more wr n2 es2) n3 es3)) := Lib.hid (nw_more (nw_more HB.out _ _) _ _)
        clear HX HI HB HCNT HDP x0 x1 x2 xl g0 g1 g2 hnlt hdd
        generalize (more (more wr n2 es2) n3 es3) = W2 at *
        go_loopg [14] (i + 1) (fun g s14 wx => ∃ j : Nat, j ≤ i ∧ g + j = i + 1 ∧ s14 = .int .i64 j ∧ Hid (findsP KM keyM (Tr.mk (ndsOf P) r F) (i - j) j = true) ∧ Hid (Below W2.heap.size W2 wx))
        case atStart => exact ⟨0, Nat.zero_le _, by omega, rfl, HFD, Lib.hid (Below.refl _ _)⟩
        case round =>
          obtain ⟨j, hj, hg, rfl, HF2, HBx⟩ := hrel
          obtain rfl : gk = i + 1 - j := by omega
          clear hg
          have HX := Lib.hid (HX2.out.below HBx.out)
          have HI := Lib.hid (HI2.out.below HBx.out)
          have x0 := HX.out.cell 0
          have x1 := HX.out.cell 1
          have x2 := HX.out.cell 2
          have xl : Lt tb wr.heap.size := HX.out.lt
          have g0 := HX.out.free 0
          have g1 := HX.out.free 1
          have g2 := HX.out.free 2
          simp only [List.getElem?_toArray, List.getElem?_cons_succ, List.getElem?_cons_zero] at x0 x1 x2
          by_cases hlt : j < i
          · have hf2 := HF2.out
            rw [show i - j = (i - (j + 1)) + 1 by omega] at hf2
            obtain ⟨hf3, hf4⟩ := findsP_step hf2
            have HREST := Lib.hid hf4
            have hin2 : (j : Int) < (i : Int) := by omega
            have HKE := Lib.hid (keyM_is j (by omega))
            have HDG0 : Hid (∀ w9 : World, Calls Tryz.prog 11 #[.int .i64 (1000 + (j : Int))] w9 fun e w' => e = .returned (.string ⟨(digL 4 (1000 + j)).toArray⟩) ∧ Below w9.heap.size w9 w') := Lib.hid (fun w9 => by
              have := digits_any w9 (1000 + j) (by omega)
              rwa [show ((1000 + j : Nat) : Int) = 1000 + (j : Int) by omega] at this)
            have HFI0 := Lib.hid (fun (w9 : World) (hb : Below wr.heap.size wr w9) => find_any KM 0 w9 _ _ r P F (keyM j) (j : Int) (HI.out.below hb) hp500 hf3)
            rw [HKE.out] at HFI0
            generalize (⟨(digL 4 (1000 + j)).toArray⟩ : ByteArray) = D at *
            have HDG := HDG0
            have HFI := HFI0
            have hDs : D.size ≤ 140737488355328 := by
              have h1 := KM.hsz (keyM j)
              rw [HKE.out, ByteArray.size_append] at h1
              omega
            have hsl : ¬ 9223372036854775807 < 1 + D.size := by omega
            clear HDG0 HFI0 hf2 hf3 hf4
            have hw1 : IntKind.i64.wrap (1000 + (j : Int)) = 1000 + (j : Int) := IntWalk.i64_in _ (by omega)
            go_upto_region 23 with (fail)
            obtain ⟨C0, hC0⟩ : ∃ C0 : World → Prop, ∀ w9, C0 w9 ↔ (w9.cell? ⟨tb, 0, none⟩ = some (.slice np1 P.length nc1) ∧ w9.cell? ⟨tb, 1, none⟩ = some (.int .i64 r) ∧ w9.cell? ⟨tb, 2, none⟩ = some (.slice fp F.length fc)) := ⟨_, fun _ => Iff.rfl⟩
            have hCall : ∀ w9, Below wr.heap.size wr w9 → C0 w9 := fun w9 hb => (hC0 _).2 ⟨(hb.cell (p := ⟨tb, 0, none⟩) xl).trans x0, (hb.cell (p := ⟨tb, 1, none⟩) xl).trans x1, (hb.cell (p := ⟨tb, 2, none⟩) xl).trans x2⟩
            refine wp_region_par [3, 5, 9, 10] [#[.tmp 104], #[.tmp 102, .tmp 106], #[.tmp 108], #[.tmp 109]] (fun t j => (t == 1 && j == 0) || (t == 2 && decide (j < 2)) || (t == 3 && decide (j < 3))) (by kernel_rfl) (by kernel_rfl) (fun m => by kernel_rfl) (fun w9 => ∃ p : Among C0, w9 = p.w) (fun t _ => match t with
              | 0 => #[.int .i64 (1000 + (j : Int))]
              | 1 => #[.agg #[.slice np1 P.length nc1, .int .i64 r, .slice fp F.length fc], .string ((⟨#[107]⟩ : ByteArray) ++ D)]
              | 2 => #[.int .i64 j]
              | _ => #[.int .i64 0]) (RPost wr (fun t x => x = match t with
              | 0 => .string D
              | 1 => .tuple #[.int .i64 j, .int .i64 0]
              | 2 => .int .i64 j
              | _ => .int .i64 0)) (r_start wr _) (fun m w9 hp _ => ⟨⟨w9, hCall w9 hp.1⟩, rfl⟩) (fun m w9 hp => r_full hp _ (fun _ w9 _ _ => ⟨_, w9, Below.refl _ _, rfl⟩)) (fun t m m' ht hpre hext => rfl) ?hstep ?hwalk
            case hstep =>
              intro t m w9 o hp ht hmt hpre ho a next hargs hn
              match t, ht with
              | 0, _ =>
                obtain rfl := Option.some.inj ho
                have e1 : a.eval (.tmp 104) = .int .i64 (1000 + (j : Int)) := by simpa using congrArg (fun (x : Array Value) => x.getD 0 undef) hargs
                unfold Oper.wp execOp
                have e2 : a.tmps[104]?.getD undef = .int .i64 (1000 + (j : Int)) := by simpa [go_sem] using e1
                simp [e2, go_sem]
                refine (HDG.out w9).mono ?_
                rintro e w' ⟨rfl, hb⟩
                exact hn _ _ (r_step hp hb rfl)
              | 1, _ =>
                obtain rfl := Option.some.inj ho
                have e1 : a.eval (.tmp 102) = .agg #[.slice np1 P.length nc1, .int .i64 r, .slice fp F.length fc] := by simpa using congrArg (fun (x : Array Value) => x.getD 0 undef) hargs
                have e2 : a.eval (.tmp 106) = .string ((⟨#[107]⟩ : ByteArray) ++ D) := by simpa using congrArg (fun (x : Array Value) => x.getD 1 undef) hargs
                unfold Oper.wp execOp
                have e4 : a.tmps[102]?.getD undef = .agg #[.slice np1 P.length nc1, .int .i64 r, .slice fp F.length fc] := by simpa [go_sem] using e1
                have e5 : a.tmps[106]?.getD undef = .string ((⟨#[107]⟩ : ByteArray) ++ D) := by simpa [go_sem] using e2
                simp [e4, e5, go_sem]
                refine (HFI.out w9 hp.1).mono ?_
                rintro e w' ⟨rfl, hb⟩
                exact hn _ _ (r_step hp hb rfl)
              | 2, _ =>
                obtain rfl := Option.some.inj ho
                have e1 : a.eval (.tmp 108) = .int .i64 j := by simpa using congrArg (fun (x : Array Value) => x.getD 0 undef) hargs
                unfold Oper.wp execOp
                have e2 : a.tmps[108]?.getD undef = .int .i64 j := by simpa [go_sem] using e1
                simp [e2, go_sem]
                exact hn _ _ (r_step hp (Below.refl _ _) rfl)
              | 3, _ =>
                obtain rfl := Option.some.inj ho
                have e1 : a.eval (.tmp 109) = .int .i64 0 := by simpa using congrArg (fun (x : Array Value) => x.getD 0 undef) hargs
                unfold Oper.wp execOp
                have e2 : a.tmps[109]?.getD undef = .int .i64 0 := by simpa [go_sem] using e1
                simp [e2, go_sem]
                exact hn _ _ (r_step hp (Below.refl _ _) rfl)
            case hwalk =>
              intro m w9 hp hF
              obtain ⟨v0, h0⟩ := Option.ne_none_iff_exists'.1 (hF 0 (by decide))
              obtain ⟨v1, h1⟩ := Option.ne_none_iff_exists'.1 (hF 1 (by decide))
              obtain ⟨v2, h2⟩ := Option.ne_none_iff_exists'.1 (hF 2 (by decide))
              obtain ⟨v3, h3⟩ := Option.ne_none_iff_exists'.1 (hF 3 (by decide))
              obtain rfl := hp.2 0 v0 h0
              obtain rfl := hp.2 1 v1 h1
              obtain rfl := hp.2 2 v2 h2
              obtain rfl := hp.2 3 v3 h3
              have HB9 := Lib.hid hp.1
              clear hp
              simp only [opsP, dumP, posOf, Nat.reduceAdd, Nat.reduceEqDiff, if_false, if_true, Option.map_none, Option.map_some, h0, h1, h2, h3, Option.getD_some]
              have c0 : ∀ p : Among C0, p.w.cell? ⟨tb, 0, none⟩ = some (.slice np1 P.length nc1) := fun p => ((hC0 _).1 p.ok).1
              have c1 : ∀ p : Among C0, p.w.cell? ⟨tb, 1, none⟩ = some (.int .i64 r) := fun p => ((hC0 _).1 p.ok).2.1
              have c2 : ∀ p : Among C0, p.w.cell? ⟨tb, 2, none⟩ = some (.slice fp F.length fc) := fun p => ((hC0 _).1 p.ok).2.2
              have hinh : Nonempty (Among C0) := ⟨⟨wr, (hC0 _).2 ⟨x0, x1, x2⟩⟩⟩
              (repeat (first | go_big_quiet_skip | quiet_step (fail)))
              refine ⟨fun j hj => ?_, ?_⟩
              · match j, hj with
                | 0, _ => simp [go_sem]
                | 1, _ => simp [go_sem]
                | 2, _ => simp [go_sem]
                | 3, _ => simp [go_sem]
              · clear c0 c1 c2 hinh hCall hC0 h0 h1 h2 h3 hF HDG HFI hsl hw1
                go_wp2_with (first | (go_at_call 12; refine (num6_any _ _).mono ?_; rintro e w' ⟨rfl, rfl⟩))
                go_roundg (i + 1 - j - 1)
                case measure => omega
                case rel => exact ⟨j + 1, by omega, by omega, by go_num, HREST, Lib.hid (nw_trans HBx.out HB9.out)⟩
          · have hin : ¬ (j : Int) < (i : Int) := by omega
            clear HF2 hlt
            have HX3 := Lib.hid (HX2.out.below HBx.out)
            have HI3 := Lib.hid (HI2.out.below HBx.out)
            have HB3 : Hid (Below w.heap.size w wr) := Lib.hid (nw_trans HB2.out HBx.out)
            go_upto_region 27 with (fail)
            clear HX2 HI2 HB2 HBx HX HI x0 x1 x2 xl g0 g1 g2 HLENS hp500 hf500 HFD
            go_loopg [17] (i + 1) (fun g s17 wx => ∃ j : Nat, j ≤ i ∧ g + j = i + 1 ∧ s17 = .int .i64 j ∧ ∃ (np fp : Option Addr) (nc fc : Nat) (r : Int) (P : List (Nv (Fin 101))) (F : List Int), Hid (cutsM KM keyM (fun a => wayAt 2 a i) (i - j) j (Tr.mk (ndsOf P) r F) = some t9) ∧ Hid (TreeIn KM 0 wx (.slice np P.length nc) (.slice fp F.length fc) P F) ∧ Hid (Blc wx tb 25 #[.slice np P.length nc, .int .i64 r, .slice fp F.length fc]) ∧ Hid (Below w.heap.size w wx))
            case atStart => exact ⟨0, Nat.zero_le _, by omega, rfl, np1, fp, nc1, fc, r, P, F, HCM, HI3, HX3, HB3⟩
            case round =>
              clear HX3 HI3 HB3 HCM
              obtain ⟨j, hj, hg, rfl, np1, fp, nc1, fc, r, P, F, HC, HI, HX, HB⟩ := hrel
              obtain rfl : gk = i + 1 - j := by omega
              clear hg
              have x0 := HX.out.cell 0
              have x1 := HX.out.cell 1
              have x2 := HX.out.cell 2
              have xl : Lt tb wr.heap.size := HX.out.lt
              have g0 := HX.out.free 0
              have g1 := HX.out.free 1
              have g2 := HX.out.free 2
              simp only [List.getElem?_toArray, List.getElem?_cons_succ, List.getElem?_cons_zero] at x0 x1 x2
              by_cases hlt : j < i
              · have hC2 := HC.out
                rw [show i - j = (i - (j + 1)) + 1 by omega] at hC2
                obtain ⟨hk1, t2, hcut, hk2, hrest⟩ := cutsM_step hC2
                obtain ⟨hp500, hf500, hlens, -⟩ := okT_parts hk1
                have HK2 := Lib.hid hk2
                have HREST := Lib.hid hrest
                have HLENS := Lib.hid hlens
                have hin2 : (j : Int) < (i : Int) := by omega
                obtain ⟨X, hX⟩ : ∃ X : Nat, X = j / 2 := ⟨_, rfl⟩
                obtain ⟨Z, hZ⟩ : ∃ Z : Nat, Z = i - 1 - X := ⟨_, rfl⟩
                obtain ⟨Y, hY⟩ : ∃ Y : Nat, Y = j % 2 := ⟨_, rfl⟩
                have hXl : X < i := by omega
                have hZl : Z < i := by omega
                have hord : wayAt 2 j i = if Y = 0 then X else Z := by show (if j % 2 = 0 then j / 2 else i - 1 - j / 2) = _; rw [hY, hZ, hX]
                have hw1' : IntKind.i64.wrap ((i : Int) - 1) = (i : Int) - 1 := IntWalk.i64_in _ (by omega)
                have hw2' : IntKind.i64.wrap ((i : Int) - 1 - (j : Int)) = (i : Int) - 1 - (j : Int) := IntWalk.i64_in _ (by omega)
                have hq1 : (j : Int).tdiv 2 = (X : Int) := by rw [Int.tdiv_eq_ediv_of_nonneg (by omega)]; omega
                have hq2 : (j : Int).tmod 2 = (Y : Int) := by rw [Int.tmod_eq_emod_of_nonneg (by omega)]; omega
                have hwX : IntKind.i64.wrap (X : Int) = (X : Int) := IntWalk.i64_in _ (by omega)
                have hwY : IntKind.i64.wrap (Y : Int) = (Y : Int) := IntWalk.i64_in _ (by omega)
                have hsX : (i : Int) - 1 - (X : Int) = (Z : Int) := by omega
                have hwZ : IntKind.i64.wrap (Z : Int) = (Z : Int) := IntWalk.i64_in _ (by omega)
                clear hC2 hk1 hk2 hrest hlens hX hZ hY
                by_cases hY0 : Y = 0
                · subst hY0
                  rw [if_pos rfl] at hord
                  rw [hord] at hcut
                  have HADD := Lib.hid hcut
                  clear hcut hord
                  have HKE := Lib.hid (keyM_is X (by omega))
                  have HDG0 : Hid (∀ w9 : World, Calls Tryz.prog 11 #[.int .i64 (1000 + (X : Int))] w9 fun e w' => e = .returned (.string ⟨(digL 4 (1000 + X)).toArray⟩) ∧ Below w9.heap.size w9 w') := Lib.hid (fun w9 => by
                    have := digits_any w9 (1000 + X) (by omega)
                    rwa [show ((1000 + X : Nat) : Int) = 1000 + (X : Int) by omega] at this)
                  generalize (⟨(digL 4 (1000 + X)).toArray⟩ : ByteArray) = D at *
                  have HDG := HDG0
                  have hDs : D.size ≤ 140737488355328 := by
                    have h1 := KM.hsz (keyM X)
                    rw [HKE.out, ByteArray.size_append] at h1
                    omega
                  have hsl : ¬ 9223372036854775807 < 1 + D.size := by omega
                  have HIW := Lib.hid (fun (w9 : World) (hb : Below wr.heap.size wr w9) => by
                    have h := cut_any KM 0 w9 _ _ r P F (keyM X) t2 (HI.out.below hb) HLENS.out hp500 hf500 (by
                      have h2 := HK2.out
                      unfold okT at h2
                      simp only [Bool.and_eq_true, decide_eq_true_eq] at h2
                      exact h2.2.1) HADD.out
                    rw [HKE.out] at h
                    exact h)
                  clear HDG0
                  have hw1 : IntKind.i64.wrap (1000 + (X : Int)) = 1000 + (X : Int) := IntWalk.i64_in _ (by omega)
                  go_upto_region 33 with (fail)
                  obtain ⟨C0, hC0⟩ : ∃ C0 : World → Prop, ∀ w9, C0 w9 ↔ (w9.cell? ⟨tb, 0, none⟩ = some (.slice np1 P.length nc1) ∧ w9.cell? ⟨tb, 1, none⟩ = some (.int .i64 r) ∧ w9.cell? ⟨tb, 2, none⟩ = some (.slice fp F.length fc)) := ⟨_, fun _ => Iff.rfl⟩
                  have hCall : ∀ m w9, RgPost KM wr t2 D (.int .i64 0) undef m w9 → C0 w9 := fun m w9 hp => (hC0 _).2 ⟨(hp.1.cell (p := ⟨tb, 0, none⟩) xl).trans x0, (hp.1.cell (p := ⟨tb, 1, none⟩) xl).trans x1, (hp.1.cell (p := ⟨tb, 2, none⟩) xl).trans x2⟩
                  refine wp_region_par [3, 5, 9, 10, 11] [#[.tmp 140], #[.tmp 138, .tmp 142], #[], #[.tmp 19, .tmp 144], #[.tmp 145]] (fun t j => (t == 1 && j == 0) || (t == 3 && decide (j < 3)) || (t == 4 && decide (j < 4))) (by kernel_rfl) (by kernel_rfl) (fun m => by kernel_rfl) (fun w9 => ∃ p : Among C0, w9 = p.w) (fun t m => match t with
                    | 0 => #[.int .i64 (1000 + (X : Int))]
                    | 1 => #[.agg #[.slice np1 P.length nc1, .int .i64 r, .slice fp F.length fc], .string ((⟨#[107]⟩ : ByteArray) ++ D)]
                    | 2 => #[]
                    | 3 => #[(m 2).getD undef, fstV ((m 1).getD undef)]
                    | _ => #[sndV ((m 1).getD undef)]) (RgPost KM wr t2 D (.int .i64 0) undef) (rg_start wr) (fun m w9 hp _ => ⟨⟨w9, hCall m w9 hp⟩, rfl⟩) (fun m w9 hp => ?hfull) (fun t m m' ht hpre hext => ?hdep) ?hstep ?hwalk
                  case hfull =>
                    obtain ⟨m', w', h1, h2, h3⟩ := rg_full hp (fun w9 hb => by
                      obtain ⟨e, w', fr, ho, -⟩ := HIW.out w9 hb []
                      exact ⟨e, w', ho⟩)
                    exact ⟨m', w', h1, fun t ht => h2 t (by have : t < 5 := ht; omega), h3⟩
                  case hdep =>
                    match t, ht with
                    | 0, _ => rfl
                    | 1, _ => rfl
                    | 2, _ => rfl
                    | 3, _ =>
                      obtain ⟨x, hx⟩ := Option.ne_none_iff_exists'.1 (hpre 1 (by decide) rfl)
                      obtain ⟨y, hy⟩ := Option.ne_none_iff_exists'.1 (hpre 2 (by decide) rfl)
                      simp only [hx, hy, hext _ _ hx, hext _ _ hy]
                    | 4, _ =>
                      obtain ⟨x, hx⟩ := Option.ne_none_iff_exists'.1 (hpre 1 (by decide) rfl)
                      simp only [hx, hext _ _ hx]
                  case hstep =>
                    intro t m w9 o hp ht hmt hpre ho a next hargs hn
                    match t, ht with
                    | 0, _ =>
                      obtain rfl := Option.some.inj ho
                      have e1 : a.eval (.tmp 140) = .int .i64 (1000 + (X : Int)) := by simpa using congrArg (fun (x : Array Value) => x.getD 0 undef) hargs
                      unfold Oper.wp execOp
                      have e2 : a.tmps[140]?.getD undef = .int .i64 (1000 + (X : Int)) := by simpa [go_sem] using e1
                      simp [e2, go_sem]
                      refine (HDG.out w9).mono ?_
                      rintro e w' ⟨rfl, hb⟩
                      exact hn _ _ (rg_dig hp hmt hb)
                    | 1, _ =>
                      obtain rfl := Option.some.inj ho
                      have e1 : a.eval (.tmp 138) = .agg #[.slice np1 P.length nc1, .int .i64 r, .slice fp F.length fc] := by simpa using congrArg (fun (x : Array Value) => x.getD 0 undef) hargs
                      have e2 : a.eval (.tmp 142) = .string ((⟨#[107]⟩ : ByteArray) ++ D) := by simpa using congrArg (fun (x : Array Value) => x.getD 1 undef) hargs
                      unfold Oper.wp execOp
                      have e4 : a.tmps[138]?.getD undef = .agg #[.slice np1 P.length nc1, .int .i64 r, .slice fp F.length fc] := by simpa [go_sem] using e1
                      have e5 : a.tmps[142]?.getD undef = .string ((⟨#[107]⟩ : ByteArray) ++ D) := by simpa [go_sem] using e2
                      simp [e4, e5, go_sem]
                      refine (HIW.out w9 hp.1).mono ?_
                      intro e w' ho2
                      obtain ⟨x, rfl, hp2⟩ := rg_call hp hmt (hpre 0 (by decide) rfl) ho2
                      exact hn _ _ hp2
                    | 2, _ =>
                      obtain rfl := Option.some.inj ho
                      unfold Oper.wp execOp
                      simp [go_sem]
                      exact hn _ _ (rg_new hp hmt _ _ _)
                    | 3, _ =>
                      obtain rfl := Option.some.inj ho
                      obtain ⟨xx, hx⟩ := Option.ne_none_iff_exists'.1 (hpre 1 (by decide) rfl)
                      obtain ⟨yy, hy⟩ := Option.ne_none_iff_exists'.1 (hpre 2 (by decide) rfl)
                      obtain ⟨v', u', P', rfl, -, hin', -⟩ := hp.2.2.2.2.1 xx hx
                      obtain ⟨g, rfl, hgw, ⟨c0, c1, c2, hbl⟩, -⟩ := hp.2.2.2.2.2.1 yy hy
                      obtain ⟨vp, vc, rfl, -⟩ := hin'.1.slice
                      obtain ⟨up, uc, rfl, -⟩ := hin'.2.slice
                      have e1 : a.eval (.tmp 19) = .pointer (some ⟨g, 0, none⟩) := by
                        have := congrArg (fun (x : Array Value) => x.getD 0 undef) hargs
                        simpa [hy] using this
                      have e2 : a.eval (.tmp 144) = .agg #[.slice vp P'.length vc, .int .i64 t2.root, .slice up t2.free.length uc] := by
                        have := congrArg (fun (x : Array Value) => x.getD 1 undef) hargs
                        simpa [hx, T2, fstV] using this
                      have s0 := hbl.cell 0
                      have s1 := hbl.cell 1
                      have s2 := hbl.cell 2
                      have f0 := hbl.free 0
                      have f1 := hbl.free 1
                      have f2 := hbl.free 2
                      have sl := hbl.lt
                      simp only [List.getElem?_toArray, List.getElem?_cons_succ, List.getElem?_cons_zero] at s0 s1 s2
                      unfold Oper.wp execOp
                      have e3 : a.tmps[19]?.getD undef = .pointer (some ⟨g, 0, none⟩) := by simpa [go_sem] using e1
                      have e4 : a.tmps[144]?.getD undef = .agg #[.slice vp P'.length vc, .int .i64 t2.root, .slice up t2.free.length uc] := by simpa [go_sem] using e2
                      simp [e3, e4, s0, s1, s2, f0, f1, f2, go_sem]
                      exact hn undef _ (rg_store hp hmt hx hy)
                    | 4, _ =>
                      obtain rfl := Option.some.inj ho
                      obtain ⟨xx, hx⟩ := Option.ne_none_iff_exists'.1 (hpre 1 (by decide) rfl)
                      obtain ⟨v', u', P', rfl, -⟩ := hp.2.2.2.2.1 xx hx
                      have e1 : a.eval (.tmp 145) = .int .i64 0 := by
                        have := congrArg (fun (x : Array Value) => x.getD 0 undef) hargs
                        simpa [hx, T2, sndV] using this
                      unfold Oper.wp execOp
                      have e3 : a.tmps[145]?.getD undef = .int .i64 0 := by simpa [go_sem] using e1
                      simp [e3, go_sem]
                      exact hn _ _ (rg_four hp)
                  case hwalk =>
                    intro m w9 hp hF
                    obtain ⟨v0, h0⟩ := Option.ne_none_iff_exists'.1 (hF 0 (by decide))
                    obtain ⟨v1, h1⟩ := Option.ne_none_iff_exists'.1 (hF 1 (by decide))
                    obtain ⟨v2, h2⟩ := Option.ne_none_iff_exists'.1 (hF 2 (by decide))
                    obtain ⟨v3, h3⟩ := Option.ne_none_iff_exists'.1 (hF 3 (by decide))
                    obtain ⟨v4, h4⟩ := Option.ne_none_iff_exists'.1 (hF 4 (by decide))
                    obtain ⟨a1, -, -, a4, a5, a6, a7, -, a9⟩ := hp
                    obtain rfl := a4 v0 h0
                    obtain ⟨v', u', P', rfl, hnd, hin', -⟩ := a5 v1 h1
                    obtain ⟨g, rfl, hgw, -, hbl⟩ := a6 v2 h2
                    obtain rfl := a9 v3 h3
                    obtain rfl := a7 v4 h4
                    have hbl2 := hbl (by rw [h3]; simp) v' u' h1
                    obtain ⟨vp, vc, rfl, -⟩ := hin'.1.slice
                    obtain ⟨up, uc, rfl, -⟩ := hin'.2.slice
                    have HBL := Lib.hid hbl2
                    have HIN := Lib.hid hin'
                    have HB9 := Lib.hid a1
                    have HND := Lib.hid hnd
                    have HGW := Lib.hid hgw
                    clear a1 a4 a5 a6 a7 a9 hbl hbl2 hin' hnd hgw
                    simp only [opsP, dumP, posOf, Nat.reduceAdd, Nat.reduceEqDiff, if_false, if_true, Option.map_none, Option.map_some, h0, h1, h2, h3, h4, Option.getD_some, T2]
                    have c0 : ∀ p : Among C0, p.w.cell? ⟨tb, 0, none⟩ = some (.slice np1 P.length nc1) := fun p => ((hC0 _).1 p.ok).1
                    have c1 : ∀ p : Among C0, p.w.cell? ⟨tb, 1, none⟩ = some (.int .i64 r) := fun p => ((hC0 _).1 p.ok).2.1
                    have c2 : ∀ p : Among C0, p.w.cell? ⟨tb, 2, none⟩ = some (.slice fp F.length fc) := fun p => ((hC0 _).1 p.ok).2.2
                    have hinh : Nonempty (Among C0) := ⟨⟨wr, (hC0 _).2 ⟨x0, x1, x2⟩⟩⟩
                    (repeat (first | go_big_quiet_skip | quiet_step (fail)))
                    refine ⟨fun j hj => ?_, ?_⟩
                    · match j, hj with
                      | 0, _ => simp [go_sem]
                      | 1, _ => simp [go_sem]
                      | 2, _ => simp [go_sem]
                      | 3, _ => simp [go_sem, h1, h2, T2, fstV]
                      | 4, _ => simp [go_sem, h1, T2, sndV]
                    · clear c0 c1 c2 hinh hCall hC0 h0 h1 h2 h3 h4 hF HDG HIW hsl hw1
                      have y0 := HBL.out.cell 0
                      have y1 := HBL.out.cell 1
                      have y2 := HBL.out.cell 2
                      have yl : Lt g w9.heap.size := HBL.out.lt
                      have HX9 := Lib.hid (HX.out.below HB9.out)
                      have z0 := HX9.out.cell 0
                      have z1 := HX9.out.cell 1
                      have z2 := HX9.out.cell 2
                      have q0 := HX9.out.free 0
                      have q1 := HX9.out.free 1
                      have q2 := HX9.out.free 2
                      have zl : Lt tb w9.heap.size := HX9.out.lt
                      simp only [List.getElem?_toArray, List.getElem?_cons_succ, List.getElem?_cons_zero] at y0 y1 y2 z0 z1 z2
                      go_wp2_with (first | (go_at_call 12; refine (num6_any _ _).mono ?_; rintro e w' ⟨rfl, rfl⟩))
                      go_roundg (i + 1 - j - 1)
                      case measure => omega
                      case rel =>
                        have hgt : tb < wr.heap.size := xl
                        have hst : ∀ (W : World) (j9 : Nat) (x : Value), TreeIn KM wr.heap.size W (.slice vp P'.length vc) (.slice up t2.free.length uc) P' t2.free → TreeIn KM wr.heap.size (W.setCell ⟨tb, j9, none⟩ x) (.slice vp P'.length vc) (.slice up t2.free.length uc) P' t2.free := fun W j9 x h => h.stays (Stays.set (a := ⟨tb, j9, none⟩) hgt x)
                        refine ⟨j + 1, by omega, by omega, by go_num, vp, up, vc, uc, t2.root, P', t2.free, ?_, Lib.hid ?_, Lib.hid ?_, Lib.hid ?_⟩
                        · have e : Tr.mk (ndsOf P') t2.root t2.free = t2 := by rw [HND.out]
                          rw [e]
                          exact HREST
                        · exact (hst _ _ _ (hst _ _ _ (hst _ _ _ HIN.out))).mono (Nat.zero_le _)
                        · exact ((HX9.out.set 0 _).set 1 _).set 2 _
                        · have hbel := nw_trans HB.out HB9.out
                          exact nw_set (nw_set (nw_set hbel (by show w.heap.size ≤ tb; omega) _) (by show w.heap.size ≤ tb; omega) _) (by show w.heap.size ≤ tb; omega) _
                · rw [if_neg hY0] at hord
                  rw [hord] at hcut
                  have HADD := Lib.hid hcut
                  have hY1 : ¬ (Y : Int) = 0 := by omega
                  clear hcut hord
                  have HKE := Lib.hid (keyM_is Z (by omega))
                  have HDG0 : Hid (∀ w9 : World, Calls Tryz.prog 11 #[.int .i64 (1000 + (Z : Int))] w9 fun e w' => e = .returned (.string ⟨(digL 4 (1000 + Z)).toArray⟩) ∧ Below w9.heap.size w9 w') := Lib.hid (fun w9 => by
                    have := digits_any w9 (1000 + Z) (by omega)
                    rwa [show ((1000 + Z : Nat) : Int) = 1000 + (Z : Int) by omega] at this)
                  generalize (⟨(digL 4 (1000 + Z)).toArray⟩ : ByteArray) = D at *
                  have HDG := HDG0
                  have hDs : D.size ≤ 140737488355328 := by
                    have h1 := KM.hsz (keyM Z)
                    rw [HKE.out, ByteArray.size_append] at h1
                    omega
                  have hsl : ¬ 9223372036854775807 < 1 + D.size := by omega
                  have HIW := Lib.hid (fun (w9 : World) (hb : Below wr.heap.size wr w9) => by
                    have h := cut_any KM 0 w9 _ _ r P F (keyM Z) t2 (HI.out.below hb) HLENS.out hp500 hf500 (by
                      have h2 := HK2.out
                      unfold okT at h2
                      simp only [Bool.and_eq_true, decide_eq_true_eq] at h2
                      exact h2.2.1) HADD.out
                    rw [HKE.out] at h
                    exact h)
                  clear HDG0
                  have hw1 : IntKind.i64.wrap (1000 + (Z : Int)) = 1000 + (Z : Int) := IntWalk.i64_in _ (by omega)
                  go_upto_region 33 with (fail)
                  obtain ⟨C0, hC0⟩ : ∃ C0 : World → Prop, ∀ w9, C0 w9 ↔ (w9.cell? ⟨tb, 0, none⟩ = some (.slice np1 P.length nc1) ∧ w9.cell? ⟨tb, 1, none⟩ = some (.int .i64 r) ∧ w9.cell? ⟨tb, 2, none⟩ = some (.slice fp F.length fc)) := ⟨_, fun _ => Iff.rfl⟩
                  have hCall : ∀ m w9, RgPost KM wr t2 D (.int .i64 0) undef m w9 → C0 w9 := fun m w9 hp => (hC0 _).2 ⟨(hp.1.cell (p := ⟨tb, 0, none⟩) xl).trans x0, (hp.1.cell (p := ⟨tb, 1, none⟩) xl).trans x1, (hp.1.cell (p := ⟨tb, 2, none⟩) xl).trans x2⟩
                  refine wp_region_par [3, 5, 9, 10, 11] [#[.tmp 140], #[.tmp 138, .tmp 142], #[], #[.tmp 19, .tmp 144], #[.tmp 145]] (fun t j => (t == 1 && j == 0) || (t == 3 && decide (j < 3)) || (t == 4 && decide (j < 4))) (by kernel_rfl) (by kernel_rfl) (fun m => by kernel_rfl) (fun w9 => ∃ p : Among C0, w9 = p.w) (fun t m => match t with
                    | 0 => #[.int .i64 (1000 + (Z : Int))]
                    | 1 => #[.agg #[.slice np1 P.length nc1, .int .i64 r, .slice fp F.length fc], .string ((⟨#[107]⟩ : ByteArray) ++ D)]
                    | 2 => #[]
                    | 3 => #[(m 2).getD undef, fstV ((m 1).getD undef)]
                    | _ => #[sndV ((m 1).getD undef)]) (RgPost KM wr t2 D (.int .i64 0) undef) (rg_start wr) (fun m w9 hp _ => ⟨⟨w9, hCall m w9 hp⟩, rfl⟩) (fun m w9 hp => ?hfull) (fun t m m' ht hpre hext => ?hdep) ?hstep ?hwalk
                  case hfull =>
                    obtain ⟨m', w', h1, h2, h3⟩ := rg_full hp (fun w9 hb => by
                      obtain ⟨e, w', fr, ho, -⟩ := HIW.out w9 hb []
                      exact ⟨e, w', ho⟩)
                    exact ⟨m', w', h1, fun t ht => h2 t (by have : t < 5 := ht; omega), h3⟩
                  case hdep =>
                    match t, ht with
                    | 0, _ => rfl
                    | 1, _ => rfl
                    | 2, _ => rfl
                    | 3, _ =>
                      obtain ⟨x, hx⟩ := Option.ne_none_iff_exists'.1 (hpre 1 (by decide) rfl)
                      obtain ⟨y, hy⟩ := Option.ne_none_iff_exists'.1 (hpre 2 (by decide) rfl)
                      simp only [hx, hy, hext _ _ hx, hext _ _ hy]
                    | 4, _ =>
                      obtain ⟨x, hx⟩ := Option.ne_none_iff_exists'.1 (hpre 1 (by decide) rfl)
                      simp only [hx, hext _ _ hx]
                  case hstep =>
                    intro t m w9 o hp ht hmt hpre ho a next hargs hn
                    match t, ht with
                    | 0, _ =>
                      obtain rfl := Option.some.inj ho
                      have e1 : a.eval (.tmp 140) = .int .i64 (1000 + (Z : Int)) := by simpa using congrArg (fun (x : Array Value) => x.getD 0 undef) hargs
                      unfold Oper.wp execOp
                      have e2 : a.tmps[140]?.getD undef = .int .i64 (1000 + (Z : Int)) := by simpa [go_sem] using e1
                      simp [e2, go_sem]
                      refine (HDG.out w9).mono ?_
                      rintro e w' ⟨rfl, hb⟩
                      exact hn _ _ (rg_dig hp hmt hb)
                    | 1, _ =>
                      obtain rfl := Option.some.inj ho
                      have e1 : a.eval (.tmp 138) = .agg #[.slice np1 P.length nc1, .int .i64 r, .slice fp F.length fc] := by simpa using congrArg (fun (x : Array Value) => x.getD 0 undef) hargs
                      have e2 : a.eval (.tmp 142) = .string ((⟨#[107]⟩ : ByteArray) ++ D) := by simpa using congrArg (fun (x : Array Value) => x.getD 1 undef) hargs
                      unfold Oper.wp execOp
                      have e4 : a.tmps[138]?.getD undef = .agg #[.slice np1 P.length nc1, .int .i64 r, .slice fp F.length fc] := by simpa [go_sem] using e1
                      have e5 : a.tmps[142]?.getD undef = .string ((⟨#[107]⟩ : ByteArray) ++ D) := by simpa [go_sem] using e2
                      simp [e4, e5, go_sem]
                      refine (HIW.out w9 hp.1).mono ?_
                      intro e w' ho2
                      obtain ⟨x, rfl, hp2⟩ := rg_call hp hmt (hpre 0 (by decide) rfl) ho2
                      exact hn _ _ hp2
                    | 2, _ =>
                      obtain rfl := Option.some.inj ho
                      unfold Oper.wp execOp
                      simp [go_sem]
                      exact hn _ _ (rg_new hp hmt _ _ _)
                    | 3, _ =>
                      obtain rfl := Option.some.inj ho
                      obtain ⟨xx, hx⟩ := Option.ne_none_iff_exists'.1 (hpre 1 (by decide) rfl)
                      obtain ⟨yy, hy⟩ := Option.ne_none_iff_exists'.1 (hpre 2 (by decide) rfl)
                      obtain ⟨v', u', P', rfl, -, hin', -⟩ := hp.2.2.2.2.1 xx hx
                      obtain ⟨g, rfl, hgw, ⟨c0, c1, c2, hbl⟩, -⟩ := hp.2.2.2.2.2.1 yy hy
                      obtain ⟨vp, vc, rfl, -⟩ := hin'.1.slice
                      obtain ⟨up, uc, rfl, -⟩ := hin'.2.slice
                      have e1 : a.eval (.tmp 19) = .pointer (some ⟨g, 0, none⟩) := by
                        have := congrArg (fun (x : Array Value) => x.getD 0 undef) hargs
                        simpa [hy] using this
                      have e2 : a.eval (.tmp 144) = .agg #[.slice vp P'.length vc, .int .i64 t2.root, .slice up t2.free.length uc] := by
                        have := congrArg (fun (x : Array Value) => x.getD 1 undef) hargs
                        simpa [hx, T2, fstV] using this
                      have s0 := hbl.cell 0
                      have s1 := hbl.cell 1
                      have s2 := hbl.cell 2
                      have f0 := hbl.free 0
                      have f1 := hbl.free 1
                      have f2 := hbl.free 2
                      have sl := hbl.lt
                      simp only [List.getElem?_toArray, List.getElem?_cons_succ, List.getElem?_cons_zero] at s0 s1 s2
                      unfold Oper.wp execOp
                      have e3 : a.tmps[19]?.getD undef = .pointer (some ⟨g, 0, none⟩) := by simpa [go_sem] using e1
                      have e4 : a.tmps[144]?.getD undef = .agg #[.slice vp P'.length vc, .int .i64 t2.root, .slice up t2.free.length uc] := by simpa [go_sem] using e2
                      simp [e3, e4, s0, s1, s2, f0, f1, f2, go_sem]
                      exact hn undef _ (rg_store hp hmt hx hy)
                    | 4, _ =>
                      obtain rfl := Option.some.inj ho
                      obtain ⟨xx, hx⟩ := Option.ne_none_iff_exists'.1 (hpre 1 (by decide) rfl)
                      obtain ⟨v', u', P', rfl, -⟩ := hp.2.2.2.2.1 xx hx
                      have e1 : a.eval (.tmp 145) = .int .i64 0 := by
                        have := congrArg (fun (x : Array Value) => x.getD 0 undef) hargs
                        simpa [hx, T2, sndV] using this
                      unfold Oper.wp execOp
                      have e3 : a.tmps[145]?.getD undef = .int .i64 0 := by simpa [go_sem] using e1
                      simp [e3, go_sem]
                      exact hn _ _ (rg_four hp)
                  case hwalk =>
                    intro m w9 hp hF
                    obtain ⟨v0, h0⟩ := Option.ne_none_iff_exists'.1 (hF 0 (by decide))
                    obtain ⟨v1, h1⟩ := Option.ne_none_iff_exists'.1 (hF 1 (by decide))
                    obtain ⟨v2, h2⟩ := Option.ne_none_iff_exists'.1 (hF 2 (by decide))
                    obtain ⟨v3, h3⟩ := Option.ne_none_iff_exists'.1 (hF 3 (by decide))
                    obtain ⟨v4, h4⟩ := Option.ne_none_iff_exists'.1 (hF 4 (by decide))
                    obtain ⟨a1, -, -, a4, a5, a6, a7, -, a9⟩ := hp
                    obtain rfl := a4 v0 h0
                    obtain ⟨v', u', P', rfl, hnd, hin', -⟩ := a5 v1 h1
                    obtain ⟨g, rfl, hgw, -, hbl⟩ := a6 v2 h2
                    obtain rfl := a9 v3 h3
                    obtain rfl := a7 v4 h4
                    have hbl2 := hbl (by rw [h3]; simp) v' u' h1
                    obtain ⟨vp, vc, rfl, -⟩ := hin'.1.slice
                    obtain ⟨up, uc, rfl, -⟩ := hin'.2.slice
                    have HBL := Lib.hid hbl2
                    have HIN := Lib.hid hin'
                    have HB9 := Lib.hid a1
                    have HND := Lib.hid hnd
                    have HGW := Lib.hid hgw
                    clear a1 a4 a5 a6 a7 a9 hbl hbl2 hin' hnd hgw
                    simp only [opsP, dumP, posOf, Nat.reduceAdd, Nat.reduceEqDiff, if_false, if_true, Option.map_none, Option.map_some, h0, h1, h2, h3, h4, Option.getD_some, T2]
                    have c0 : ∀ p : Among C0, p.w.cell? ⟨tb, 0, none⟩ = some (.slice np1 P.length nc1) := fun p => ((hC0 _).1 p.ok).1
                    have c1 : ∀ p : Among C0, p.w.cell? ⟨tb, 1, none⟩ = some (.int .i64 r) := fun p => ((hC0 _).1 p.ok).2.1
                    have c2 : ∀ p : Among C0, p.w.cell? ⟨tb, 2, none⟩ = some (.slice fp F.length fc) := fun p => ((hC0 _).1 p.ok).2.2
                    have hinh : Nonempty (Among C0) := ⟨⟨wr, (hC0 _).2 ⟨x0, x1, x2⟩⟩⟩
                    (repeat (first | go_big_quiet_skip | quiet_step (fail)))
                    refine ⟨fun j hj => ?_, ?_⟩
                    · match j, hj with
                      | 0, _ => simp [go_sem]
                      | 1, _ => simp [go_sem]
                      | 2, _ => simp [go_sem]
                      | 3, _ => simp [go_sem, h1, h2, T2, fstV]
                      | 4, _ => simp [go_sem, h1, T2, sndV]
                    · clear c0 c1 c2 hinh hCall hC0 h0 h1 h2 h3 h4 hF HDG HIW hsl hw1
                      have y0 := HBL.out.cell 0
                      have y1 := HBL.out.cell 1
                      have y2 := HBL.out.cell 2
                      have yl : Lt g w9.heap.size := HBL.out.lt
                      have HX9 := Lib.hid (HX.out.below HB9.out)
                      have z0 := HX9.out.cell 0
                      have z1 := HX9.out.cell 1
                      have z2 := HX9.out.cell 2
                      have q0 := HX9.out.free 0
                      have q1 := HX9.out.free 1
                      have q2 := HX9.out.free 2
                      have zl : Lt tb w9.heap.size := HX9.out.lt
                      simp only [List.getElem?_toArray, List.getElem?_cons_succ, List.getElem?_cons_zero] at y0 y1 y2 z0 z1 z2
                      go_wp2_with (first | (go_at_call 12; refine (num6_any _ _).mono ?_; rintro e w' ⟨rfl, rfl⟩))
                      go_roundg (i + 1 - j - 1)
                      case measure => omega
                      case rel =>
                        have hgt : tb < wr.heap.size := xl
                        have hst : ∀ (W : World) (j9 : Nat) (x : Value), TreeIn KM wr.heap.size W (.slice vp P'.length vc) (.slice up t2.free.length uc) P' t2.free → TreeIn KM wr.heap.size (W.setCell ⟨tb, j9, none⟩ x) (.slice vp P'.length vc) (.slice up t2.free.length uc) P' t2.free := fun W j9 x h => h.stays (Stays.set (a := ⟨tb, j9, none⟩) hgt x)
                        refine ⟨j + 1, by omega, by omega, by go_num, vp, up, vc, uc, t2.root, P', t2.free, ?_, Lib.hid ?_, Lib.hid ?_, Lib.hid ?_⟩
                        · have e : Tr.mk (ndsOf P') t2.root t2.free = t2 := by rw [HND.out]
                          rw [e]
                          exact HREST
                        · exact (hst _ _ _ (hst _ _ _ (hst _ _ _ HIN.out))).mono (Nat.zero_le _)
                        · exact ((HX9.out.set 0 _).set 1 _).set 2 _
                        · have hbel := nw_trans HB.out HB9.out
                          exact nw_set (nw_set (nw_set hbel (by show w.heap.size ≤ tb; omega) _) (by show w.heap.size ≤ tb; omega) _) (by show w.heap.size ≤ tb; omega) _
              · obtain rfl : j = i := by omega
                have hnlt : ¬ (j : Int) < (j : Int) := by omega
                have hT : Tr.mk (ndsOf P) r F = t9 := by
                  have h := HC.out
                  rw [Nat.sub_self] at h
                  exact Option.some.inj h
                subst hT
                have HSM := Lib.hid (okT_parts HOK9.out).2.2.2
                clear HC HOK9 hlt hj
                go_wp2_with fail
                refine (tree_any KM 0 _ _ _ r P F [] 1 HI.out HSM.out HTW.out (by decide)).mono ?_
                rintro e w' ⟨rp, rc, rfl, hb⟩
                obtain ⟨n4, es4, rfl⟩ := below_more hb
                clear hb
                go_wp2_with (first | (go_at_call 18; refine (wakes6_any _).mono ?_; (rintro e w' ⟨rfl, hb⟩; obtain ⟨n, es, rfl⟩ := below_more hb; clear hb)))
                go_ret
                exact ⟨rfl, by have hbel := HB.out; (repeat (first | exact Below.refl _ _ | assumption | refine nw_more ?_ _ _ | refine nw_alloc ?_ _ | refine nw_drew ?_ | refine nw_drewN ?_ _ | refine nw_set ?_ (by first | (simp; done) | (simp; omega) | omega) _))⟩
  · go_wp2
    go_ret
    exact ⟨rfl, by (repeat (first | exact Below.refl _ _ | assumption | refine nw_more ?_ _ _ | refine nw_alloc ?_ _ | refine nw_drew ?_ | refine nw_drewN ?_ _ | refine nw_set ?_ (by first | (simp; done) | (simp; omega) | omega) _))⟩
end Go.Proofs.YtaophiknldkfdaaGreatDoor
