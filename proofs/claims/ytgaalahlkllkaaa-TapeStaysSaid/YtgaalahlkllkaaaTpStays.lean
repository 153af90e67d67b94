/- TapeStays returns true. No condition. -/
import Derived.Test.YtgaalahlkllkaaaTpS
import Derived.Deep.CutRange
namespace Go.Proofs.Ytgaalahlkllkaaa
open Go.RowKit

theorem playS_one {S : List ByteArray} {l : List Pt} {d : Dd} : (playS S l [d]).length = S.length := by
  show (stepS S l d).length = S.length
  unfold stepS
  split
  · exact setP_length l S
  · rfl
set_option maxRecDepth 100000 in
set_option maxHeartbeats 32000000 in
theorem tapeStays_any (w : World) (us vs av : Value) (N : Int) (Sx : List ByteArray) (lx : List Pt) (Q : List Av) (hs : SsAt w us Sx) (hp : PsAt w vs lx) (ha : AcAt w av Q) :
    Calls Try.prog 3 #[.agg #[us, vs, .int .i64 N, av]] w fun e w' => e = .returned (.bool true) ∧ Below w.heap.size w w' := by
  have HH := Lib.hid (fun (w' : World) (hb : Below w.heap.size w w') => heavy18_any w' us vs av N Sx lx Q (hs.below hb) (hp.below hb) (ha.below hb))
  obtain ⟨ps, cs, rfl, -⟩ := hs.slice
  obtain ⟨pp, cp, rfl, -⟩ := hp.slice
  have HAC := Lib.hid ha
  obtain ⟨pa, ca, rfl, hal, -⟩ := ha.at
  clear hs hp ha
  go_enter Try.func3, Try.ntmps3
  go_wp2_with fail
  refine (HH.out _ (by (repeat (first | exact Below.refl _ _ | assumption | refine nw_more ?_ _ _ | refine nw_alloc ?_ _ | refine nw_drew ?_ | refine nw_drewN ?_ _ | refine nw_set ?_ (by first | (simp; done) | (simp; omega) | omega) _)))).mono ?_
  rintro e w' ⟨b0, rfl, hb⟩
  obtain ⟨n0, es0, rfl⟩ := below_more hb
  clear hb HH
  cases b0
  case true =>
    go_wp2
    go_ret
    exact ⟨rfl, by (repeat (first | exact Below.refl _ _ | assumption | refine nw_more ?_ _ _ | refine nw_alloc ?_ _ | refine nw_drew ?_ | refine nw_drewN ?_ _ | refine nw_set ?_ (by first | (simp; done) | (simp; omega) | omega) _))⟩
  case false =>
  go_upto_region 3 with (fail)
  go_cut [3] (fun s3 wx => ∃ n : Nat, s3 = .int .i64 n ∧ Hid (1 ≤ n ∧ n ≤ 9) ∧ Hid (Below w.heap.size w wx) ∧ Hid (Blc wx w.heap.size 28 #[.slice ps Sx.length cs, .slice pp lx.length cp, .int .i64 N, .slice pa Q.length ca]))
  case first =>
    as_aux_lemma =>
      go_wp2_with fail
      refine (within_any N 9 _ (by decide) (by decide)).mono ?_
      rintro e w' ⟨⟨r, hr, rfl⟩, rfl⟩
      have hw1 : IntKind.i64.wrap (1 + (r : Int)) = ((r + 1 : Nat) : Int) := (IntWalk.i64_in _ (by omega)).trans (by omega)
      go_wp2
      go_meet
      exact ⟨r + 1, by first | rfl | go_num, Lib.hid ⟨by omega, by omega⟩, Lib.hid (by (repeat (first | exact Below.refl _ _ | assumption | refine nw_more ?_ _ _ | refine nw_alloc ?_ _ | refine nw_drew ?_ | refine nw_drewN ?_ _ | refine nw_set ?_ (by first | (simp; done) | (simp; omega) | omega) _))), Lib.hid (by (repeat (first | exact Blc.newAt _ _ _ (by simp; done) | refine Blc.alloc ?_ _ | refine Blc.mre ?_ _ _)))⟩
  case rest =>
  obtain ⟨n, rfl, HN9, HB0, HBX⟩ := hcut
  obtain ⟨W0, rfl⟩ : ∃ W0, W0 = wc := ⟨wc, rfl⟩
  have HA0 := Lib.hid (HAC.out.below HB0.out)
  clear HAC
  go_wp2_with fail
  go_loopg [4] (Q.length + 1) (fun g s4 wr => ∃ i : Nat, i ≤ Q.length ∧ g + i = Q.length + 1 ∧ s4 = .int .i64 i ∧ Hid (Below W0.heap.size W0 wr))
  case atStart => exact ⟨0, Nat.zero_le _, rfl, rfl, Lib.hid (Below.refl _ _)⟩
  case round =>
    obtain ⟨i, hi, hg, rfl, HB⟩ := hrel
    obtain rfl : gk = Q.length + 1 - i := by omega
    clear hg
    have hbx := HBX.out.below HB.out
    have z3 := hbx.cell 3
    have zl : Lt w.heap.size wr.heap.size := hbx.lt
    simp only [List.getElem?_toArray, List.getElem?_cons_succ, List.getElem?_cons_zero] at z3
    clear hbx
    by_cases hgo : i < Q.length ∧ i < 8
    case neg =>
      as_aux_lemma =>
        have hbw := HB0.out.trans (HB.out.mono HB0.out.size)
        have hout : (i < Q.length ∧ ¬ i < 8) ∨ ¬ i < Q.length := by omega
        rcases hout with ⟨h1, h2⟩ | h1
        · have k1 : (i : Int) < (Q.length : Int) := by omega
          have k2 : ¬ (i : Int) < 8 := by omega
          go_wp2_with (first | (go_at_call 14; refine (wakes18_any _).mono ?_; (rintro e w' ⟨rfl, hb⟩; obtain ⟨n, es, rfl⟩ := below_more hb; clear hb)))
          go_ret
          exact ⟨rfl, nw_trans hbw (by (repeat (first | exact Below.refl _ _ | assumption | refine nw_more ?_ _ _ | refine nw_alloc ?_ _ | refine nw_drew ?_ | refine nw_drewN ?_ _ | refine nw_set ?_ (by first | (simp; done) | (simp; omega) | omega) _)))⟩
        · have k1 : ¬ (i : Int) < (Q.length : Int) := by omega
          go_wp2_with (first | (go_at_call 14; refine (wakes18_any _).mono ?_; (rintro e w' ⟨rfl, hb⟩; obtain ⟨n, es, rfl⟩ := below_more hb; clear hb)))
          go_ret
          exact ⟨rfl, nw_trans hbw (by (repeat (first | exact Below.refl _ _ | assumption | refine nw_more ?_ _ _ | refine nw_alloc ?_ _ | refine nw_drew ?_ | refine nw_drewN ?_ _ | refine nw_set ?_ (by first | (simp; done) | (simp; omega) | omega) _)))⟩
    case pos =>
    obtain ⟨hiQ, hi8⟩ := hgo
    have k1 : (i : Int) < (Q.length : Int) := by omega
    have k2 : (i : Int) < 8 := by omega
    obtain ⟨W1, rfl⟩ : ∃ W1, W1 = wr := ⟨wr, rfl⟩
    obtain ⟨pa', ca', e', -, haa⟩ := (HA0.out.below HB.out).at
    simp only [Value.slice.injEq, true_and] at e'
    obtain ⟨rfl, rfl⟩ := e'
    obtain ⟨ab, aoff, x, rfl, hab, a2, a3, hds⟩ := haa i hiQ
    obtain ⟨xv, D, kp, kn, kc⟩ := x
    dsimp only at a2 a3 hds
    obtain ⟨dp, dc, rfl, hDl, -⟩ := hds.at
    have HD := Lib.hid hds
    have HZ : Hid (∀ X, Below W1.heap.size W1 X → X.cell? ⟨w.heap.size, 3, none⟩ = some (.slice (some ⟨ab, aoff, none⟩) Q.length ca) ∧ Lt w.heap.size X.heap.size ∧ X.cell? ⟨ab, aoff + i * 4 + 2, none⟩ = some (.slice dp D.length dc) ∧ X.cell? ⟨ab, aoff + i * 4 + 3, none⟩ = some (.slice kp kn kc) ∧ Lt ab X.heap.size) := Lib.hid (fun X hX =>
      ⟨(hX.cell (p := ⟨w.heap.size, 3, none⟩) zl.out).trans z3, Nat.lt_of_lt_of_le zl.out hX.size, (hX.cell (p := ⟨ab, aoff + i * 4 + 2, none⟩) hab.out).trans a2, (hX.cell (p := ⟨ab, aoff + i * 4 + 3, none⟩) hab.out).trans a3, Nat.lt_of_lt_of_le hab.out hX.size⟩)
    clear haa hds a2 a3 hab
    go_upto_region 7 with (fail)
    go_cut [5] from 28 to 207 (fun s5 wx => ∃ (tb : Nat) (u : Value), s5 = .pointer (some ⟨tb, 0, none⟩) ∧ Hid (W1.heap.size ≤ tb) ∧ Hid (Tb W1.heap.size wx tb u (.slice none 0 0) (emptyS n) []) ∧ Hid (Below W1.heap.size W1 wx))
    case first =>
      as_aux_lemma =>
        go_wp2_with fail
        refine (rNew_any n _ (by have := HN9.out; omega)).mono ?_
        rintro e w' ⟨u, rfl, ho, hb⟩
        obtain ⟨q0, c0, e0⟩ := ho.form
        rw [emptyS_length] at e0
        subst e0
        obtain ⟨n1, es1, rfl⟩ := below_more hb
        clear hb
        go_wp2
        go_meet
        refine ⟨_, _, rfl, Lib.hid ?_, Lib.hid ⟨by (repeat (first | exact Blc.newAt _ _ _ (by simp; done) | refine Blc.alloc ?_ _ | refine Blc.mre ?_ _ _)), World.ownsRow.alloc (World.ownsRow.mono ho (by simp)) _, OwnP.nil _ _⟩, Lib.hid (by (repeat (first | exact Below.refl _ _ | assumption | refine nw_more ?_ _ _ | refine nw_alloc ?_ _ | refine nw_drew ?_ | refine nw_drewN ?_ _ | refine nw_set ?_ (by first | (simp; done) | (simp; omega) | omega) _)))⟩
        omega
    case rest =>
    obtain ⟨tb, u0, rfl, HTB, HT0, HB1⟩ := hcut
    clear z3 zl k1 k2
    go_upto_block 2 with (fail)
    go_cut [] from 28 to 207 (fun wx => ∃ (u v : Value) (S : List ByteArray) (l : List Pt), Hid (TpOk S l) ∧ Hid (S.length = n) ∧ Hid (Tb W1.heap.size wx tb u v S l) ∧ Hid (Below W1.heap.size W1 wx))
    case first =>
      as_aux_lemma =>
        go_wp2_with fail
        go_loopg [6] (D.length + 1) (fun g s6 wx => ∃ (k : Nat) (S : List ByteArray) (l : List Pt) (u v : Value), k ≤ D.length ∧ g + k = D.length + 1 ∧ s6 = .int .i64 k ∧ Hid (TpOk S l) ∧ Hid (S.length = n) ∧ Hid (Tb W1.heap.size wx tb u v S l) ∧ Hid (Below W1.heap.size W1 wx))
        case atStart => exact ⟨0, emptyS n, [], u0, _, Nat.zero_le _, rfl, rfl, Lib.hid (emptyS_ok HN9.out.1 (by have := HN9.out; omega)), Lib.hid (emptyS_length n), HT0, HB1⟩
        case round =>
          clear HT0 HB1
          obtain ⟨k, S, l, u, v, hk, hg, rfl, HOK, HSN, HT, HB2⟩ := hrel
          obtain rfl : gk = D.length + 1 - k := by omega
          clear hg
          obtain ⟨z3, zl, z2, -, zal⟩ := HZ.out _ HB2.out
          obtain ⟨qu, cu, eu⟩ := HT.out.o.form
          rw [HSN.out] at eu
          subst eu
          obtain ⟨qv, cv, rfl⟩ := HT.out.p.slice
          obtain ⟨x0, x1, f0, f1, xl⟩ := HT.out.cells
          by_cases hgo : k < D.length ∧ k < 20
          case neg =>
            as_aux_lemma =>
              have hout : (k < D.length ∧ ¬ k < 20) ∨ ¬ k < D.length := by omega
              rcases hout with ⟨h1, h2⟩ | h1
              · have j1 : (k : Int) < (D.length : Int) := by omega
                have j2 : ¬ (k : Int) < 20 := by omega
                go_wp2_with fail
                go_meet
                exact ⟨_, _, S, l, HOK, HSN, HT, HB2⟩
              · have j1 : ¬ (k : Int) < (D.length : Int) := by omega
                go_wp2_with fail
                go_meet
                exact ⟨_, _, S, l, HOK, HSN, HT, HB2⟩
          case pos =>
          obtain ⟨hkD, hk20⟩ := hgo
          have j1 : (k : Int) < (D.length : Int) := by omega
          have j2 : (k : Int) < 20 := by omega
          obtain ⟨dp', dc', e', -, hda⟩ := (HD.out.below HB2.out).at
          simp only [Value.slice.injEq, true_and] at e'
          obtain ⟨rfl, rfl⟩ := e'
          obtain ⟨db, doff, y, rfl, hdb, b0, b1, b2, -, -, hsz⟩ := hda k hkD
          obtain ⟨yg, yi, ys⟩ := y
          dsimp only at b0 b1 b2 hsz
          clear hda
          go_upto_region 11 with (fail)
          go_cut [7, 8] from 41 to 85 (fun s7 s8 wx => ∃ (yb : Nat) (se : Int) (p9 q9 : Option Addr) (n9 c9 m9 d9 : Nat), s7 = .pointer (some ⟨yb, 0, none⟩) ∧ s8 = .int .i64 se ∧ Hid (playE S l [⟨yg, ⟨yi, ys⟩⟩] = se) ∧ Hid (Blc wx yb 25 #[.slice p9 n9 c9, .slice q9 m9 d9]) ∧ Hid (se = 0 → OwnS W1.heap.size wx (.slice p9 n9 c9) (playS S l [⟨yg, ⟨yi, ys⟩⟩]) ∧ OwnP W1.heap.size wx (.slice q9 m9 d9) (playL l [⟨yg, ⟨yi, ys⟩⟩])) ∧ Hid (Below wr.heap.size wr wx))
          case first =>
            as_aux_lemma =>
              have HSS := Lib.hid (HOK.out.ss HT.out.o)
              have HPP := Lib.hid (HOK.out.ps HT.out.p)
              have hz21 := HB2.out.size
              go_region_held3 (fun w9 => w9.cell? ⟨tb, 0, none⟩ = some (.slice qu n cu) ∧ w9.cell? ⟨tb, 1, none⟩ = some (.slice qv l.length cv) ∧ w9.cell? ⟨w.heap.size, 3, none⟩ = some (.slice (some ⟨ab, aoff, none⟩) Q.length ca) ∧ w9.cell? ⟨ab, aoff + i * 4 + 2, none⟩ = some (.slice (some ⟨db, doff, none⟩) D.length dc) ∧ w9.cell? ⟨db, doff + k * 3, none⟩ = some (.bool yg) ∧ w9.cell? ⟨db, doff + k * 3 + 1, none⟩ = some (.int .i64 yi) ∧ w9.cell? ⟨db, doff + k * 3 + 2, none⟩ = some (.string ys)) (simp [go_sem, *]) (first | (go_at_call 7; refine (Play_any _ _ _ _ S l [⟨yg, ⟨yi, ys⟩⟩] HOK.out (HSS.out.below (by (repeat (first | exact Below.refl _ _ | assumption | refine nw_more ?_ _ _ | refine nw_alloc ?_ _ | refine nw_drew ?_ | refine nw_drewN ?_ _ | refine nw_set ?_ (by first | (simp; done) | (simp; omega) | omega) _)))) (HPP.out.below (by (repeat (first | exact Below.refl _ _ | assumption | refine nw_more ?_ _ _ | refine nw_alloc ?_ _ | refine nw_drew ?_ | refine nw_drewN ?_ _ | refine nw_set ?_ (by first | (simp; done) | (simp; omega) | omega) _)))) (dsAt_one (by first | (simp; done) | (simp; omega)) (by simp [go_sem]) (by simp [go_sem]) (by simp [go_sem]) hsz)).mono ?_; rintro e w' ⟨p9, n9, c9, q9, m9, d9, rfl, hok9, hb⟩; obtain ⟨nn, es, rfl⟩ := below_more hb; have HO := Lib.hid hok9; clear hb hok9))
              all_goals
                go_wp2
                go_meet
                refine ⟨_, _, p9, q9, n9, c9, m9, d9, rfl, rfl, Lib.hid rfl, Lib.hid (by (repeat (first | exact Blc.newAt _ _ _ (by simp; done) | refine Blc.alloc ?_ _ | refine Blc.mre ?_ _ _))), Lib.hid (fun he => ?_), Lib.hid (by (repeat (first | exact Below.refl _ _ | assumption | refine nw_more ?_ _ _ | refine nw_alloc ?_ _ | refine nw_drew ?_ | refine nw_drewN ?_ _ | refine nw_set ?_ (by first | (simp; done) | (simp; omega) | omega) _)))⟩
                obtain ⟨ho1, ho2⟩ := HO.out he
                constructor
                · first | exact World.ownsRow.alloc (World.ownsRow.mono ho1 (by simp; omega)) _ | exact own_swap ho1 (by simp) (by simp; omega)
                · first | exact World.ownsRow.alloc (World.ownsRow.mono ho2 (by simp; omega)) _ | exact own_swap ho2 (by simp) (by simp; omega)
          case rest =>
          obtain ⟨yb, se, p9, q9, n9, c9, m9, d9, rfl, rfl, HSE, HY, HOWN, HB3⟩ := hcut
          have HT3 := Lib.hid (HT.out.below HB3.out)
          have HB4 := Lib.hid (HB2.out.trans (HB3.out.mono HB2.out.size))
          clear x0 x1 f0 f1 xl z3 zl z2 zal b0 b1 b2 hdb hsz HT HB2
          have y0 := HY.out.cell 0
          have y1 := HY.out.cell 1
          have yl : Lt yb wc.heap.size := HY.out.lt
          simp only [List.getElem?_toArray, List.getElem?_cons_succ, List.getElem?_cons_zero] at y0 y1
          obtain ⟨x0, x1, f0, f1, xl⟩ := HT3.out.cells
          by_cases h0 : se = 0
          · subst h0
            obtain ⟨ho1, ho2⟩ := HOWN.out rfl
            have hn9 : n9 = n := (own_len ho1).trans (playS_one.trans HSN.out)
            subst hn9
            have hok9 := tpOk_play _ _ _ HOK.out HSE.out
            have HS9 := Lib.hid (hok9.ss ho1)
            have HP9 := Lib.hid (hok9.ps ho2)
            have HOK9 := Lib.hid hok9
            have HSN9 : Hid ((playS S l [⟨yg, ⟨yi, ys⟩⟩]).length = n9) := Lib.hid (playS_one.trans HSN.out)
            have HPUT := Lib.hid (Tb.put HT3.out.blk ho1 ho2)
            have hzt : W1.heap.size ≤ tb := HTB.out
            clear ho1 ho2 hok9 HOWN HSE HOK HSN HT3 HY
            go_wp2_with (first | (go_at_call 8; refine (num18_any _ _).mono ?_; rintro e w' ⟨rfl, rfl⟩) | (go_at_call 9; refine (tapeOk_of HOK9.out (HS9.out.below (by (repeat (first | exact Below.refl _ _ | assumption | refine nw_more ?_ _ _ | refine nw_alloc ?_ _ | refine nw_drew ?_ | refine nw_drewN ?_ _ | refine nw_set ?_ (by first | (simp; done) | (simp; omega) | omega) _)))) (HP9.out.below (by (repeat (first | exact Below.refl _ _ | assumption | refine nw_more ?_ _ _ | refine nw_alloc ?_ _ | refine nw_drew ?_ | refine nw_drewN ?_ _ | refine nw_set ?_ (by first | (simp; done) | (simp; omega) | omega) _))))).mono ?_; (rintro e w' ⟨rfl, hb⟩; obtain ⟨n, es, rfl⟩ := below_more hb; clear hb)))
            go_roundg (D.length + 1 - k - 1)
            case measure => omega
            case rel =>
              have hb4 := HB4.out
              exact ⟨k + 1, _, _, _, _, by omega, by omega, by go_num, HOK9, HSN9, Lib.hid (HPUT.out.below (by (repeat (first | exact Below.refl _ _ | assumption | refine nw_more ?_ _ _ | refine nw_alloc ?_ _ | refine nw_drew ?_ | refine nw_drewN ?_ _ | refine nw_set ?_ (by first | (simp; done) | (simp; omega) | omega) _)))), Lib.hid (by (repeat (first | exact Below.refl _ _ | assumption | refine nw_more ?_ _ _ | refine nw_alloc ?_ _ | refine nw_drew ?_ | refine nw_drewN ?_ _ | refine nw_set ?_ (by first | (simp; done) | (simp; omega) | omega) _)))⟩
          · have hne : (se == 0) = false := beq_eq_false_iff_ne.2 h0
            clear HOWN HSE HY
            go_wp2_with (first | (go_at_call 8; refine (num18_any _ _).mono ?_; rintro e w' ⟨rfl, rfl⟩))
            go_roundg (D.length + 1 - k - 1)
            case measure => omega
            case rel => exact ⟨k + 1, S, l, _, _, by omega, by omega, by go_num, HOK, HSN, HT3, HB4⟩
    case rest =>
    obtain ⟨u, v, S, l, HOK, HSN, HT, HB2⟩ := hcut
    clear HT0 HB1
    obtain ⟨qu, cu, eu⟩ := HT.out.o.form
    rw [HSN.out] at eu
    subst eu
    obtain ⟨qv, cv, rfl⟩ := HT.out.p.slice
    have HST := Lib.hid (HOK.out.ss HT.out.o)
    have HPT := Lib.hid (HOK.out.ps HT.out.p)
    have HBT := Lib.hid HT.out.blk
    have HOK2 := Lib.hid HOK.out.settled
    have HSN2 : Hid ((setP S l).length = n) := Lib.hid ((setP_length l S).trans HSN.out)
    obtain ⟨x0, x1, -, -, xl⟩ := HT.out.cells
    clear HT
    go_upto_region 14 with (fail)
    go_cut [9, 10] from 28 to 207 (fun s9 s10 wx => ∃ (sb : Nat) (p1 q1 : Option Addr) (c1 d1 : Nat), s9 = .pointer (some ⟨sb, 0, none⟩) ∧ s10 = .int .i64 0 ∧ Hid (Blc wx sb 25 #[.slice p1 n c1, .slice q1 0 d1]) ∧ Hid (SsAt wx (.slice p1 n c1) (setP S l)) ∧ Hid (Below wc.heap.size wc wx))
    case first =>
      as_aux_lemma =>
        go_wp2_with fail
        refine (sync_any _ _ _ _ S l n HSN.out HOK.out (HST.out.below (by (repeat (first | exact Below.refl _ _ | assumption | refine nw_more ?_ _ _ | refine nw_alloc ?_ _ | refine nw_drew ?_ | refine nw_drewN ?_ _ | refine nw_set ?_ (by first | (simp; done) | (simp; omega) | omega) _)))) (HPT.out.below (by (repeat (first | exact Below.refl _ _ | assumption | refine nw_more ?_ _ _ | refine nw_alloc ?_ _ | refine nw_drew ?_ | refine nw_drewN ?_ _ | refine nw_set ?_ (by first | (simp; done) | (simp; omega) | omega) _)))) (dsAt_one (by first | (simp; done) | (simp; omega)) (by simp [go_sem]) (by simp [go_sem]) (by simp [go_sem, E0]) (by decide))).mono ?_
        rintro e w' ⟨p1, c1, q1, d1, rfl, hs1, hb⟩
        obtain ⟨n1, es1, rfl⟩ := below_more hb
        have HSX := Lib.hid (HOK2.out.ss hs1)
        clear hb hs1
        go_wp2
        go_meet
        exact ⟨_, p1, q1, c1, d1, rfl, rfl, Lib.hid (by (repeat (first | exact Blc.newAt _ _ _ (by simp; done) | refine Blc.alloc ?_ _ | refine Blc.mre ?_ _ _))), Lib.hid (HSX.out.below (by (repeat (first | exact Below.refl _ _ | assumption | refine nw_more ?_ _ _ | refine nw_alloc ?_ _ | refine nw_drew ?_ | refine nw_drewN ?_ _ | refine nw_set ?_ (by first | (simp; done) | (simp; omega) | omega) _)))), Lib.hid (by (repeat (first | exact Below.refl _ _ | assumption | refine nw_more ?_ _ _ | refine nw_alloc ?_ _ | refine nw_drew ?_ | refine nw_drewN ?_ _ | refine nw_set ?_ (by first | (simp; done) | (simp; omega) | omega) _)))⟩
    case rest =>
    obtain ⟨sb, p1, q1, c1, d1, rfl, rfl, HBS, HS1, HBX1⟩ := hcut
    have HST1 := Lib.hid (HST.out.below HBX1.out)
    have HPT1 := Lib.hid (HPT.out.below HBX1.out)
    have HBT1 := Lib.hid (HBT.out.below HBX1.out)
    have HB3 := Lib.hid (HB2.out.trans (HBX1.out.mono HB2.out.size))
    clear x0 x1 xl HST HPT HBT HB2 HBX1
    have y0 := HBS.out.cell 0
    have y1 := HBS.out.cell 1
    have yl : Lt sb wc.heap.size := HBS.out.lt
    have x0 := HBT1.out.cell 0
    have x1 := HBT1.out.cell 1
    have xl : Lt tb wc.heap.size := HBT1.out.lt
    simp only [List.getElem?_toArray, List.getElem?_cons_succ, List.getElem?_cons_zero] at y0 y1 x0 x1
    go_upto_region 17 with (first | (go_at_call 8; refine (num18_any _ _).mono ?_; rintro e w' ⟨rfl, rfl⟩) | (go_at_call 9; refine (tapeOk_of HOK2.out (HS1.out.below (by (repeat (first | exact Below.refl _ _ | assumption | refine nw_more ?_ _ _ | refine nw_alloc ?_ _ | refine nw_drew ?_ | refine nw_drewN ?_ _ | refine nw_set ?_ (by first | (simp; done) | (simp; omega) | omega) _)))) (PsAt.nil _ _ _)).mono ?_; rintro e w' ⟨rfl, hb⟩; obtain ⟨nn, ess, rfl⟩ := below_more hb; clear hb))
    go_cut [11, 12] from 28 to 207 (fun s11 s12 wx => ∃ (lb : Nat) (p2 q2 : Option Addr) (c2 d2 : Nat), s11 = .pointer (some ⟨lb, 0, none⟩) ∧ s12 = .int .i64 0 ∧ Hid (Blc wx lb 25 #[.slice p2 n c2, .slice q2 0 d2]) ∧ Hid (SsAt wx (.slice p2 n c2) S) ∧ Hid (Below wc.heap.size wc wx))
    case first =>
      as_aux_lemma =>
        go_wp2_with fail
        refine (crash_lost _ _ _ S l n HSN.out HOK.out (HST1.out.below (by (repeat (first | exact Below.refl _ _ | assumption | refine nw_more ?_ _ _ | refine nw_alloc ?_ _ | refine nw_drew ?_ | refine nw_drewN ?_ _ | refine nw_set ?_ (by first | (simp; done) | (simp; omega) | omega) _)))) (HPT1.out.below (by (repeat (first | exact Below.refl _ _ | assumption | refine nw_more ?_ _ _ | refine nw_alloc ?_ _ | refine nw_drew ?_ | refine nw_drewN ?_ _ | refine nw_set ?_ (by first | (simp; done) | (simp; omega) | omega) _))))).mono ?_
        rintro e w' ⟨p9, c9, q9, d9, rfl, hs9, hb⟩
        obtain ⟨n9, es9, rfl⟩ := below_more hb
        have HSX := Lib.hid (HOK.out.lost.ss hs9)
        clear hb hs9
        go_wp2
        go_meet
        exact ⟨_, p9, q9, c9, d9, rfl, rfl, Lib.hid (by (repeat (first | exact Blc.newAt _ _ _ (by simp; done) | refine Blc.alloc ?_ _ | refine Blc.mre ?_ _ _))), Lib.hid (HSX.out.below (by (repeat (first | exact Below.refl _ _ | assumption | refine nw_more ?_ _ _ | refine nw_alloc ?_ _ | refine nw_drew ?_ | refine nw_drewN ?_ _ | refine nw_set ?_ (by first | (simp; done) | (simp; omega) | omega) _)))), Lib.hid (by (repeat (first | exact Below.refl _ _ | assumption | refine nw_more ?_ _ _ | refine nw_alloc ?_ _ | refine nw_drew ?_ | refine nw_drewN ?_ _ | refine nw_set ?_ (by first | (simp; done) | (simp; omega) | omega) _)))⟩
    case rest =>
    obtain ⟨lb, p2, q2, c2, d2, rfl, rfl, HBL, HS2, HBX2⟩ := hcut
    have HST2 := Lib.hid (HST1.out.below HBX2.out)
    have HPT2 := Lib.hid (HPT1.out.below HBX2.out)
    have HBT2 := Lib.hid (HBT1.out.below HBX2.out)
    have HBS2 := Lib.hid (HBS.out.below HBX2.out)
    have HS12 := Lib.hid (HS1.out.below HBX2.out)
    have HB4 := Lib.hid (HB3.out.trans (HBX2.out.mono HB3.out.size))
    clear x0 x1 xl y0 y1 yl HST1 HPT1 HBT1 HBS HS1 HB3 HBX2
    have x0 := HBT2.out.cell 0
    have x1 := HBT2.out.cell 1
    have xl : Lt tb wc.heap.size := HBT2.out.lt
    simp only [List.getElem?_toArray, List.getElem?_cons_succ, List.getElem?_cons_zero] at x0 x1
    go_upto_region 18 with (fail)
    go_cut [13, 14] from 28 to 207 (fun s13 s14 wx => ∃ (kb : Nat) (p3 q3 : Option Addr) (c3 d3 : Nat), s13 = .pointer (some ⟨kb, 0, none⟩) ∧ s14 = .int .i64 0 ∧ Hid (Blc wx kb 25 #[.slice p3 n c3, .slice q3 0 d3]) ∧ Hid (SsAt wx (.slice p3 n c3) (setP S l)) ∧ Hid (Below wc.heap.size wc wx))
    case first =>
      as_aux_lemma =>
        go_wp2_with fail
        refine (crash_kept _ _ _ S l n _ _ HSN.out HOK.out (HST2.out.below (by (repeat (first | exact Below.refl _ _ | assumption | refine nw_more ?_ _ _ | refine nw_alloc ?_ _ | refine nw_drew ?_ | refine nw_drewN ?_ _ | refine nw_set ?_ (by first | (simp; done) | (simp; omega) | omega) _)))) (HPT2.out.below (by (repeat (first | exact Below.refl _ _ | assumption | refine nw_more ?_ _ _ | refine nw_alloc ?_ _ | refine nw_drew ?_ | refine nw_drewN ?_ _ | refine nw_set ?_ (by first | (simp; done) | (simp; omega) | omega) _)))) (by first | (simp; done) | (simp; omega)) (by simp [go_sem])).mono ?_
        rintro e w' ⟨p9, c9, q9, d9, rfl, hs9, hb⟩
        obtain ⟨n9, es9, rfl⟩ := below_more hb
        have HSX := Lib.hid (HOK2.out.ss hs9)
        clear hb hs9
        go_wp2
        go_meet
        exact ⟨_, p9, q9, c9, d9, rfl, rfl, Lib.hid (by (repeat (first | exact Blc.newAt _ _ _ (by simp; done) | refine Blc.alloc ?_ _ | refine Blc.mre ?_ _ _))), Lib.hid (HSX.out.below (by (repeat (first | exact Below.refl _ _ | assumption | refine nw_more ?_ _ _ | refine nw_alloc ?_ _ | refine nw_drew ?_ | refine nw_drewN ?_ _ | refine nw_set ?_ (by first | (simp; done) | (simp; omega) | omega) _)))), Lib.hid (by (repeat (first | exact Below.refl _ _ | assumption | refine nw_more ?_ _ _ | refine nw_alloc ?_ _ | refine nw_drew ?_ | refine nw_drewN ?_ _ | refine nw_set ?_ (by first | (simp; done) | (simp; omega) | omega) _)))⟩
    case rest =>
    obtain ⟨kb, p3, q3, c3, d3, rfl, rfl, HBK, HS3, HBX3⟩ := hcut
    have HST3 := Lib.hid (HST2.out.below HBX3.out)
    have HPT3 := Lib.hid (HPT2.out.below HBX3.out)
    have HBT3 := Lib.hid (HBT2.out.below HBX3.out)
    have HBS3 := Lib.hid (HBS2.out.below HBX3.out)
    have HS13 := Lib.hid (HS12.out.below HBX3.out)
    have HBL3 := Lib.hid (HBL.out.below HBX3.out)
    have HS23 := Lib.hid (HS2.out.below HBX3.out)
    have HB5 := Lib.hid (HB4.out.trans (HBX3.out.mono HB4.out.size))
    clear x0 x1 xl HST2 HPT2 HBT2 HBS2 HS12 HBL HS2 HB4 HBX3
    have y0 := HBS3.out.cell 0
    have y1 := HBS3.out.cell 1
    have yl : Lt sb wc.heap.size := HBS3.out.lt
    simp only [List.getElem?_toArray, List.getElem?_cons_succ, List.getElem?_cons_zero] at y0 y1
    obtain ⟨z3, zl, -, z4, zal⟩ := HZ.out _ HB5.out
    go_upto_region 19 with (fail)
    go_cut [15, 16] from 28 to 207 (fun s15 s16 wx => ∃ (mb : Nat) (p4 q4 : Option Addr) (c4 d4 : Nat), s15 = .pointer (some ⟨mb, 0, none⟩) ∧ s16 = .int .i64 0 ∧ Hid (Blc wx mb 25 #[.slice p4 n c4, .slice q4 0 d4]) ∧ Hid (SsAt wx (.slice p4 n c4) (setP S l)) ∧ Hid (Below wc.heap.size wc wx))
    case first =>
      as_aux_lemma =>
        have hk1 : (i : Int) < (Q.length : Int) := by omega
        go_region_held3 (fun w9 => w9.cell? ⟨sb, 0, none⟩ = some (.slice p1 n c1) ∧ w9.cell? ⟨sb, 1, none⟩ = some (.slice q1 0 d1) ∧ w9.cell? ⟨w.heap.size, 3, none⟩ = some (.slice (some ⟨ab, aoff, none⟩) Q.length ca) ∧ w9.cell? ⟨ab, aoff + i * 4 + 3, none⟩ = some (.slice kp kn kc)) (simp [go_sem, *]) (first | (go_at_call 10; refine (crash_same _ _ _ q1 d1 (setP S l) n HSN2.out HOK2.out (HS13.out.below (by (repeat (first | exact Below.refl _ _ | assumption | refine nw_more ?_ _ _ | refine nw_alloc ?_ _ | refine nw_drew ?_ | refine nw_drewN ?_ _ | refine nw_set ?_ (by first | (simp; done) | (simp; omega) | omega) _))))).mono ?_; rintro e w' ⟨p9, c9, q9, d9, rfl, hs9, hb⟩; obtain ⟨n9, es9, rfl⟩ := below_more hb; have HSX := Lib.hid hs9; clear hb hs9))
        all_goals
          go_wp2
          go_meet
          refine ⟨_, p9, q9, c9, d9, rfl, rfl, Lib.hid (by (repeat (first | exact Blc.newAt _ _ _ (by simp; done) | refine Blc.alloc ?_ _ | refine Blc.mre ?_ _ _))), Lib.hid (HOK2.out.ss (B := 0) ?_), Lib.hid (by (repeat (first | exact Below.refl _ _ | assumption | refine nw_more ?_ _ _ | refine nw_alloc ?_ _ | refine nw_drew ?_ | refine nw_drewN ?_ _ | refine nw_set ?_ (by first | (simp; done) | (simp; omega) | omega) _)))⟩
          first | exact World.ownsRow.alloc (World.ownsRow.mono HSX.out (Nat.zero_le _)) _ | exact own_swap HSX.out (by simp) (Nat.zero_le _)
    case rest =>
    obtain ⟨mb, p4, q4, c4, d4, rfl, rfl, HBM, HS4, HBX4⟩ := hcut
    have HST4 := Lib.hid (HST3.out.below HBX4.out)
    have HPT4 := Lib.hid (HPT3.out.below HBX4.out)
    have HBT4 := Lib.hid (HBT3.out.below HBX4.out)
    have HBS4 := Lib.hid (HBS3.out.below HBX4.out)
    have HS14 := Lib.hid (HS13.out.below HBX4.out)
    have HBL4 := Lib.hid (HBL3.out.below HBX4.out)
    have HS24 := Lib.hid (HS23.out.below HBX4.out)
    have HBK4 := Lib.hid (HBK.out.below HBX4.out)
    have HS34 := Lib.hid (HS3.out.below HBX4.out)
    have HB6 := Lib.hid (HB5.out.trans (HBX4.out.mono HB5.out.size))
    clear y0 y1 yl z3 zl z4 zal HST3 HPT3 HBT3 HBS3 HS13 HBL3 HS23 HBK HS3 HB5 HBX4
    have x0 := HBT4.out.cell 0
    have x1 := HBT4.out.cell 1
    have xl : Lt tb wc.heap.size := HBT4.out.lt
    have y0 := HBS4.out.cell 0
    have y1 := HBS4.out.cell 1
    have yl : Lt sb wc.heap.size := HBS4.out.lt
    have a0 := HBL4.out.cell 0
    have al : Lt lb wc.heap.size := HBL4.out.lt
    have b0 := HBK4.out.cell 0
    have b1 := HBK4.out.cell 1
    have bl : Lt kb wc.heap.size := HBK4.out.lt
    have e0 := HBM.out.cell 0
    have e1 := HBM.out.cell 1
    have el : Lt mb wc.heap.size := HBM.out.lt
    simp only [List.getElem?_toArray, List.getElem?_cons_succ, List.getElem?_cons_zero] at x0 x1 y0 y1 a0 b0 b1 e0 e1
    clear HBL4 HBK4 HBM
    obtain ⟨W2, rfl⟩ : ∃ W2, W2 = wc := ⟨wc, rfl⟩
    go_wp2_with (first | (go_at_call 8; refine (num18_any _ _).mono ?_; rintro e w' ⟨rfl, rfl⟩) | (go_at_call 11; refine (eqStrings_same _ _ _ S (HS24.out.below (by (repeat (first | exact Below.refl _ _ | assumption | refine nw_more ?_ _ _ | refine nw_alloc ?_ _ | refine nw_drew ?_ | refine nw_drewN ?_ _ | refine nw_set ?_ (by first | (simp; done) | (simp; omega) | omega) _)))) (HST4.out.below (by (repeat (first | exact Below.refl _ _ | assumption | refine nw_more ?_ _ _ | refine nw_alloc ?_ _ | refine nw_drew ?_ | refine nw_drewN ?_ _ | refine nw_set ?_ (by first | (simp; done) | (simp; omega) | omega) _))))).mono ?_; rintro e w' ⟨rfl, hb⟩; obtain ⟨nn, ess, rfl⟩ := below_more hb; clear hb))
    refine (eqTape_same _ _ _ _ _ (setP S l) [] (HS34.out.below (by (repeat (first | exact Below.refl _ _ | assumption | refine nw_more ?_ _ _ | refine nw_alloc ?_ _ | refine nw_drew ?_ | refine nw_drewN ?_ _ | refine nw_set ?_ (by first | (simp; done) | (simp; omega) | omega) _)))) (PsAt.nil _ _ _) (HS14.out.below (by (repeat (first | exact Below.refl _ _ | assumption | refine nw_more ?_ _ _ | refine nw_alloc ?_ _ | refine nw_drew ?_ | refine nw_drewN ?_ _ | refine nw_set ?_ (by first | (simp; done) | (simp; omega) | omega) _)))) (PsAt.nil _ _ _)).mono ?_
    rintro e w' ⟨rfl, hb⟩
    obtain ⟨nn, ess, rfl⟩ := below_more hb
    clear hb
    go_wp2_with fail
    refine (eqTape_same _ _ _ _ _ (setP S l) [] (HS4.out.below (by (repeat (first | exact Below.refl _ _ | assumption | refine nw_more ?_ _ _ | refine nw_alloc ?_ _ | refine nw_drew ?_ | refine nw_drewN ?_ _ | refine nw_set ?_ (by first | (simp; done) | (simp; omega) | omega) _)))) (PsAt.nil _ _ _) (HS14.out.below (by (repeat (first | exact Below.refl _ _ | assumption | refine nw_more ?_ _ _ | refine nw_alloc ?_ _ | refine nw_drew ?_ | refine nw_drewN ?_ _ | refine nw_set ?_ (by first | (simp; done) | (simp; omega) | omega) _)))) (PsAt.nil _ _ _)).mono ?_
    rintro e w' ⟨rfl, hb⟩
    obtain ⟨nn, ess, rfl⟩ := below_more hb
    clear hb
    go_wp2_with fail
    go_loopg [17] (n + 1) (fun g s17 wr => (∃ m es, wr = more W2 m es) ∧ ∃ k : Nat, k ≤ n ∧ g + k = n + 1 ∧ s17 = .int .i64 k)
    case atStart => exact ⟨below_more (by (repeat (first | exact Below.refl _ _ | assumption | refine nw_more ?_ _ _ | refine nw_alloc ?_ _ | refine nw_drew ?_ | refine nw_drewN ?_ _ | refine nw_set ?_ (by first | (simp; done) | (simp; omega) | omega) _))), 0, Nat.zero_le _, rfl, rfl⟩
    case round =>
      obtain ⟨⟨m, es, rfl⟩, k, hk, hg, rfl⟩ := hrel
      obtain rfl : gk = n + 1 - k := by omega
      clear hg
      by_cases hkn : k < n
      · have j1 : (k : Int) < (n : Int) := by omega
        have hn9 := HN9.out.2
        obtain ⟨p1', c1', e', -, -, hat⟩ := HS14.out.at
        simp only [Value.slice.injEq] at e'
        obtain ⟨rfl, -, rfl⟩ := e'
        obtain ⟨gb, goff, R, rfl, hgb, hgc, -, hgx, -⟩ := hat k (by rw [HSN2.out]; exact hkn)
        have HR : Hid ((setP S l).getD k E0 = R) := Lib.hid (by rw [List.getD, hgx]; rfl)
        have HR2 : Hid ((setP (setP S l) []).getD k E0 = R) := HR
        clear hat hgx
        go_wp2_with fail
        refine (read_at _ _ _ S l k _ rfl R HR.out HOK.out (HST4.out.below (by (repeat (first | exact Below.refl _ _ | assumption | refine nw_more ?_ _ _ | refine nw_alloc ?_ _ | refine nw_drew ?_ | refine nw_drewN ?_ _ | refine nw_set ?_ (by first | (simp; done) | (simp; omega) | omega) _)))) (HPT4.out.below (by (repeat (first | exact Below.refl _ _ | assumption | refine nw_more ?_ _ _ | refine nw_alloc ?_ _ | refine nw_drew ?_ | refine nw_drewN ?_ _ | refine nw_set ?_ (by first | (simp; done) | (simp; omega) | omega) _)))) (by rw [HSN.out]; exact hkn)).mono ?_
        rintro e w' ⟨rfl, hb⟩
        obtain ⟨m1, es1, rfl⟩ := below_more hb
        clear hb
        go_wp2_with fail
        refine (read_at _ _ _ (setP S l) [] k _ rfl R HR2.out HOK2.out (HS14.out.below (by (repeat (first | exact Below.refl _ _ | assumption | refine nw_more ?_ _ _ | refine nw_alloc ?_ _ | refine nw_drew ?_ | refine nw_drewN ?_ _ | refine nw_set ?_ (by first | (simp; done) | (simp; omega) | omega) _)))) (PsAt.nil _ _ _) (by rw [HSN2.out]; exact hkn)).mono ?_
        rintro e w' ⟨rfl, hb⟩
        obtain ⟨m2, es2, rfl⟩ := below_more hb
        clear hb
        go_wp2_with (first | (go_at_call 8; refine (num18_any _ _).mono ?_; rintro e w' ⟨rfl, rfl⟩))
        go_roundg (n + 1 - k - 1)
        case measure => omega
        case rel => exact ⟨below_more (by (repeat (first | exact Below.refl _ _ | assumption | refine nw_more ?_ _ _ | refine nw_alloc ?_ _ | refine nw_drew ?_ | refine nw_drewN ?_ _ | refine nw_set ?_ (by first | (simp; done) | (simp; omega) | omega) _))), k + 1, by omega, by omega, by go_num⟩
      · have j1 : ¬ (k : Int) < (n : Int) := by omega
        go_wp2_with fail
        go_roundg (Q.length + 1 - i - 1)
        case measure => omega
        case rel => exact ⟨i + 1, by omega, by omega, by go_num, Lib.hid (HB.out.trans ((HB6.out.trans (Below.mono (by (repeat (first | exact Below.refl _ _ | assumption | refine nw_more ?_ _ _ | refine nw_alloc ?_ _ | refine nw_drew ?_ | refine nw_drewN ?_ _ | refine nw_set ?_ (by first | (simp; done) | (simp; omega) | omega) _)) : Below W2.heap.size W2 (more W2 m es)) HB6.out.size)).mono HB.out.size))⟩
end Go.Proofs.Ytgaalahlkllkaaa
