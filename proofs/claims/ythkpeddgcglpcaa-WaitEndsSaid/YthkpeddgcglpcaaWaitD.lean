/- Contract of package wait's followed: the waits that one leads to. -/
import Derived.Test.YthkpeddgcglpcaaWaitC
import Derived.Deep.DeepCutAuto
import Derived.Test.YthkpeddgcglpcaaWQuiet
namespace Go.Proofs.Ythkpeddgcglpcaa
open Go.RowKit

theorem info_wait : (Try.prog.info? 41).map (fun i => (i.zero, i.size, i.bytes)) = some (some (.agg #[.int .i64 0, .slice none 0 0]), 2, 32) := by kernel_rfl
theorem info_int : (Try.prog.info? 3).map (fun i => (i.zero, i.size, i.bytes)) = some (some (.int .i64 0), 1, 8) := by kernel_rfl
theorem map_snoc (Q : List Wv) (x : Wv) : (Q ++ [x]).map Wv.pl = Q.map Wv.pl ++ [x.pl] := by simp
theorem sub_snoc {Q P : List Wv} {x : Wv} (h : ∀ y ∈ Q, y ∈ P) (hx : x ∈ P) : ∀ y ∈ Q ++ [x], y ∈ P := by
  intro y hy
  rcases List.mem_append.1 hy with hy | hy
  · exact h y hy
  · simp at hy; rw [hy]; exact hx
theorem own_snoc {w : World} {B : Nat} {e : TypeId} {v : Value} {Q : List Wv} {x : Wv} (h : w.ownsRow B e 2 v (Q.length + 1) (wvCells Q ++ [.int .i64 x.o, x.v])) : w.ownsRow B e 2 v (Q ++ [x]).length (wvCells (Q ++ [x])) := by
  rw [List.length_append, wvCells_append]; exact h

set_option maxRecDepth 100000 in
set_option maxHeartbeats 2000000 in
theorem followed_any (w : World) (v : Value) (l : List Wt) (o : Int) (h : WaitsAt w v l) (hm : mayB l = true) :
    Calls Try.prog 35 #[v, .int .i64 o] w fun e w' => ∃ u, e = .returned u ∧ WaitsAt w' u (followed l o) ∧ Below w.heap.size w w' := by
  obtain ⟨P, rfl, hP⟩ := h
  obtain ⟨i0, hi, hz0, hz1, hz2⟩ := info_parts info_wait
  have HI := Lib.hid hi
  have HP := Lib.hid hP
  have HM := Lib.hid hm
  have hl6 := may_len hm
  rw [List.length_map] at hl6
  obtain ⟨p, cap, rfl, hl, -⟩ := hP.at
  clear hP hm
  go_enter Try.func35, Try.ntmps35
  go_wp2
  go_loopg [5, 13] (P.length + 1) (fun g s5 s13 wr => ∃ (k : Nat) (Q : List Wv), k ≤ P.length ∧ g + k = P.length + 1 ∧ s13 = .int .i64 k ∧ Q.length ≤ k ∧ Hid (first o ((P.drop k).map Wv.pl) (Q.map Wv.pl) = first o (P.map Wv.pl) []) ∧ Hid (∀ x ∈ Q, x ∈ P) ∧ Hid (wr.ownsRow w.heap.size 41 2 s5 Q.length (wvCells Q)) ∧ Hid (Below w.heap.size w wr))
  case atStart => exact ⟨0, [], Nat.zero_le _, rfl, rfl, Nat.le_refl _, rfl, Lib.hid (fun x hx => by cases hx), World.ownsRow_nil _ _ _ _, Below.refl _ _⟩
  case round =>
    obtain ⟨k, Q, hk, hg, rfl, hq, HT, HS, HO, HB⟩ := hrel
    obtain rfl : gk = P.length + 1 - k := by omega
    clear hg
    by_cases hlt : k < P.length
    · obtain ⟨p', cap', e', -, ht⟩ := (HP.out.below HB.out).at
      obtain ⟨rfl, rfl⟩ : p = p' ∧ cap = cap' := by simpa using e'
      obtain ⟨b, off, x, rfl, hb, hc, hc1, hf, hd, hxk⟩ := ht k hlt
      have HX := Lib.hid (List.mem_of_getElem? hxk)
      obtain ⟨xo, xv, xf⟩ := x
      dsimp only at hc hc1 hf
      obtain ⟨fp, fc, rfl⟩ := hf.slice
      have HT1 : Hid (first o ((xo, xf) :: (P.drop (k + 1)).map Wv.pl) (Q.map Wv.pl) = first o (P.map Wv.pl) []) := by
        have := HT.out; rw [hd] at this; exact this
      clear hd hxk hf ht e' HT
      by_cases hx : o = xo
      · subst hx
        have HT2 : Hid (first o ((P.drop (k + 1)).map Wv.pl) ((Q ++ [Wv.mk o (.slice fp xf.length fc) xf]).map Wv.pl) = first o (P.map Wv.pl) []) := by
          have := HT1.out; rw [first_yes (x := (o, xf)) _ _ rfl] at this; rw [map_snoc]; exact this
        go_wp2_with (at_builtin; refine wpList_append_own _ rfl _ _ 27 rfl w.heap.size 41 i0 (.agg #[.int .i64 0, .slice none 0 0]) 2 32 Try.underlying27 HI.out hz0 hz1 hz2 rfl (by decide) _ _ _ rfl (own_below HO.out (by (repeat (first | exact Below.refl _ _ | assumption | refine nw_more ?_ _ _ | refine nw_alloc ?_ _ | refine nw_drew ?_ | refine nw_drewN ?_ _ | refine nw_set ?_ (by first | (simp; done) | (simp; omega) | omega) _)))) ⟨_, 0, none⟩ 1 1 [.int .i64 o, (.slice fp xf.length fc)] rfl rfl ?c1 ?c2 ?c3 ?c4 ?c5 ?_)
        ((case c1 => exact news2 (by simp [go_sem]) (by simp [go_sem])); (case c2 => exact news2_one rfl rfl); (case c3 => have hfit := hq; unfold maxLen; omega); (case c4 => have hfit := hq; omega); (case c5 => have := HB.out.size; simp; omega))
        intro v' w1 hown' hgrow hnil
        have HO' := Lib.hid (own_snoc (x := ⟨o, .slice fp xf.length fc, xf⟩) hown')
        have HB' := Lib.hid (below_append (w := w) (by have hbel := HB.out; (repeat (first | exact Below.refl _ _ | assumption | refine nw_more ?_ _ _ | refine nw_alloc ?_ _ | refine nw_drew ?_ | refine nw_drewN ?_ _ | refine nw_set ?_ (by first | (simp; done) | (simp; omega) | omega) _))) (own_below HO.out (by (repeat (first | exact Below.refl _ _ | assumption | refine nw_more ?_ _ _ | refine nw_alloc ?_ _ | refine nw_drew ?_ | refine nw_drewN ?_ _ | refine nw_set ?_ (by first | (simp; done) | (simp; omega) | omega) _)))) hgrow)
        clear hown' hgrow hnil HO HB HT1
        go_wp2
        go_roundg (P.length + 1 - k - 1)
        case measure => omega
        case rel => exact ⟨k + 1, _, by omega, by omega, by go_num, by simp; omega, HT2, Lib.hid (sub_snoc HS.out HX.out), HO', HB'⟩
      · have hx' : ¬ xo = o := fun e => hx e.symm
        have HT2 : Hid (first o ((P.drop (k + 1)).map Wv.pl) (Q.map Wv.pl) = first o (P.map Wv.pl) []) := by
          have := HT1.out; rw [first_no (x := (xo, xf)) _ _ hx'] at this; exact this
        go_wp2
        go_roundg (P.length + 1 - k - 1)
        case measure => omega
        case rel => exact ⟨k + 1, Q, by omega, by omega, by go_num, by omega, HT2, HS, Lib.hid (own_below HO.out (by (repeat (first | exact Below.refl _ _ | assumption | refine nw_more ?_ _ _ | refine nw_alloc ?_ _ | refine nw_drew ?_ | refine nw_drewN ?_ _ | refine nw_set ?_ (by first | (simp; done) | (simp; omega) | omega) _)))), Lib.hid (by have hbel := HB.out; (repeat (first | exact Below.refl _ _ | assumption | refine nw_more ?_ _ _ | refine nw_alloc ?_ _ | refine nw_drew ?_ | refine nw_drewN ?_ _ | refine nw_set ?_ (by first | (simp; done) | (simp; omega) | omega) _)))⟩
    · have e : k = P.length := by omega
      have HF : Hid (Fits (P.map Wv.pl) (Q.map Wv.pl)) := by
        have := HT.out
        rw [e, List.drop_length] at this
        rw [show Q.map Wv.pl = first o (P.map Wv.pl) [] from this]
        have hm := HM.out
        simp only [mayB, Bool.and_eq_true] at hm
        exact first_fits hm.2 (fun _ h => h)
      have HG : Hid (follow (P.map Wv.pl) (P.length + 1) 0 (Q.map Wv.pl) = followed (P.map Wv.pl) o) := by
        have := HT.out
        rw [e, List.drop_length] at this
        rw [show Q.map Wv.pl = first o (P.map Wv.pl) [] from this]
        exact (by simp only [followed, List.length_map] : follow (P.map Wv.pl) (P.length + 1) 0 (first o (P.map Wv.pl) []) = followed (P.map Wv.pl) o)
      clear e HT hq
      go_wp2_with fail
      go_loopg [5, 8] (P.length + 1) (fun g s5 s8 wr => ∃ (i : Nat) (Q : List Wv), g + i = P.length + 1 ∧ s8 = .int .i64 i ∧ i ≤ Q.length ∧ Hid (follow (P.map Wv.pl) g i (Q.map Wv.pl) = followed (P.map Wv.pl) o) ∧ Hid (Fits (P.map Wv.pl) (Q.map Wv.pl)) ∧ Hid (∀ x ∈ Q, x ∈ P) ∧ Hid (wr.ownsRow w.heap.size 41 2 s5 Q.length (wvCells Q)) ∧ Hid (Below w.heap.size w wr))
      case atStart => exact ⟨0, Q, rfl, rfl, Nat.zero_le _, HG, HF, HS, HO, HB⟩
      case round =>
        obtain ⟨i, Q, hg, rfl, hiq, HG, HF, HS, HO, HB⟩ := hrel
        have hQP : Q.length ≤ P.length := by simpa using HF.out.le
        have hWQ : WvAt wr _ Q := WvAt.own HO.out (by omega) (fun x hx => (HP.out.2.2 x (HS.out x hx)).below HB.out)
        have HWQ := Lib.hid hWQ
        obtain ⟨p1, cap1, rfl, -, -⟩ := hWQ.at
        clear hWQ
        by_cases hi' : i < Q.length
        · obtain ⟨g, rfl⟩ : ∃ g, gk = g + 1 := ⟨gk - 1, by omega⟩
          obtain ⟨Y, hY⟩ : ∃ Y, Q[i]? = some Y := ⟨_, List.getElem?_eq_getElem hi'⟩
          have HY := Lib.hid hY
          have HG1 : Hid (follow (P.map Wv.pl) g (i + 1) (scan Y.pl (P.map Wv.pl) (Q.map Wv.pl)) = followed (P.map Wv.pl) o) := by
            have := HG.out; rw [follow_step (y := Y.pl) (by simp [hY])] at this; exact this
          have hYP : Y ∈ P := HS.out Y (List.mem_of_getElem? hY)
          have HYR : Hid (risesB Y.f = true) := Lib.hid (may_rises HM.out Y.pl (List.mem_map_of_mem hYP))
          have HYF : Hid (IntsAt w Y.v Y.f) := Lib.hid (HP.out.2.2 Y hYP)
          clear hY hYP HG
          go_wp2_with fail
          go_loopg [5, 34] (P.length + 1) (fun g s5 s34 wr => ∃ (k : Nat) (R : List Wv), k ≤ P.length ∧ g + k = P.length + 1 ∧ s34 = .int .i64 k ∧ Q.length ≤ R.length ∧ Hid (R[i]? = some Y) ∧ Hid (scan Y.pl ((P.drop k).map Wv.pl) (R.map Wv.pl) = scan Y.pl (P.map Wv.pl) (Q.map Wv.pl)) ∧ Hid (Fits (P.map Wv.pl) (R.map Wv.pl)) ∧ Hid (∀ x ∈ R, x ∈ P) ∧ Hid (wr.ownsRow w.heap.size 41 2 s5 R.length (wvCells R)) ∧ Hid (Below w.heap.size w wr))
          case atStart => exact ⟨0, Q, Nat.zero_le _, rfl, rfl, Nat.le_refl _, HY, rfl, HF, HS, HO, HB⟩
          case round =>
            obtain ⟨k, R, hk, hgk, rfl, hQR, HY, HT, HF, HS, HO, HB⟩ := hrel
            obtain rfl : gk = P.length + 1 - k := by omega
            clear hgk
            have hRP : R.length ≤ P.length := by simpa using HF.out.le
            by_cases hlt : k < P.length
            · obtain ⟨p', cap', e', -, ht⟩ := (HP.out.below HB.out).at
              obtain ⟨rfl, rfl⟩ : p = p' ∧ cap = cap' := by simpa using e'
              obtain ⟨b, off, x, rfl, hb, hc, hc1, hf, hd, hxk⟩ := ht k hlt
              have HX := Lib.hid (List.mem_of_getElem? hxk)
              have hWR : WvAt wr _ R := WvAt.own HO.out (by omega) (fun x hx => (HP.out.2.2 x (HS.out x hx)).below HB.out)
              have HR := Lib.hid hWR
              obtain ⟨p2, cap2, rfl, -, hr⟩ := hWR.at
              obtain ⟨b2, off2, y, rfl, hb2, hd2, hd3, -, -, hy⟩ := hr i (by omega)
              obtain rfl : y = Y := by have := HY.out; rw [hy] at this; exact Option.some.inj this
              clear hr hy
              obtain ⟨xo, xv, xf⟩ := x
              obtain ⟨yo, yv, yf⟩ := y
              dsimp only at hc hc1 hf hd2 hd3 HYF HYR
              obtain ⟨fp, fc, rfl⟩ := hf.slice
              obtain ⟨yp, yc, rfl⟩ := HYF.out.slice
              have HT1 : Hid (scan (yo, yf) ((xo, xf) :: (P.drop (k + 1)).map Wv.pl) (R.map Wv.pl) = scan (yo, yf) (P.map Wv.pl) (Q.map Wv.pl)) := by
                have := HT.out; rw [hd] at this; exact this
              have HYF' : Hid (IntsAt wr (.slice yp yf.length yc) yf) := Lib.hid (HYF.out.below HB.out)
              clear hd hxk hf ht e' HT
              have hi1 : (0 : Int) ≤ (i : Int) := by omega
              have hi2 : (i : Int) < (R.length : Int) := by omega
              have HXP : Hid ((xo, xf) ∈ P.map Wv.pl) := Lib.hid (List.mem_map_of_mem (f := Wv.pl) HX.out)
              cases hh : has yf xo
              · have HH := Lib.hid hh
                have HT2 : Hid (scan (yo, yf) ((P.drop (k + 1)).map Wv.pl) (R.map Wv.pl) = scan (yo, yf) (P.map Wv.pl) (Q.map Wv.pl)) := by
                  have := HT1.out; rw [scan_no (x := (xo, xf)) _ _ hh] at this; exact this
                clear hh
                go_wp2_with fail
                (refine wp_region_quiet_more (by kernel_rfl) (by kernel_rfl) ?_; (repeat (first | go_big_quiet_skip | quiet_step ((first | (go_at_call 51; refine Calls.more_bool false HH.out (isFor_any _ _ _ _ yf (HYF'.out.below (by (repeat (first | exact Below.refl _ _ | assumption | refine nw_more ?_ _ _ | refine nw_alloc ?_ _ | refine nw_drew ?_ | refine nw_drewN ?_ _ | refine nw_set ?_ (by first | (simp; done) | (simp; omega) | omega) _)))) HYR.out)))))); refine wpQuiet_nil ?_; intro _ hw'; obtain ⟨⟨nq, esq⟩, hw''⟩ := hw'; subst hw''; dsimp only)
                go_wp2
                go_roundg (P.length + 1 - k - 1)
                case measure => omega
                case rel => exact ⟨k + 1, R, by omega, by omega, by go_num, hQR, HY, HT2, HF, HS, Lib.hid (own_below HO.out (by (repeat (first | exact Below.refl _ _ | assumption | refine nw_more ?_ _ _ | refine nw_alloc ?_ _ | refine nw_drew ?_ | refine nw_drewN ?_ _ | refine nw_set ?_ (by first | (simp; done) | (simp; omega) | omega) _)))), Lib.hid (by have hbel := HB.out; (repeat (first | exact Below.refl _ _ | assumption | refine nw_more ?_ _ _ | refine nw_alloc ?_ _ | refine nw_drew ?_ | refine nw_drewN ?_ _ | refine nw_set ?_ (by first | (simp; done) | (simp; omega) | omega) _)))⟩
              · have HH := Lib.hid hh
                cases hn : isOwn (R.map Wv.pl) xo
                · have HN := Lib.hid hn
                  have HT2 : Hid (scan (yo, yf) ((P.drop (k + 1)).map Wv.pl) ((R ++ [Wv.mk xo (.slice fp xf.length fc) xf]).map Wv.pl) = scan (yo, yf) (P.map Wv.pl) (Q.map Wv.pl)) := by
                    have := HT1.out; rw [scan_yes (x := (xo, xf)) _ _ hh hn] at this; rw [map_snoc]; exact this
                  have HF2 : Hid (Fits (P.map Wv.pl) ((R ++ [Wv.mk xo (.slice fp xf.length fc) xf]).map Wv.pl)) := by
                    rw [map_snoc]; exact HF.out.add HXP.out hn
                  have HY2 : Hid ((R ++ [Wv.mk xo (.slice fp xf.length fc) xf])[i]? = some (Wv.mk yo (.slice yp yf.length yc) yf)) := by
                    rw [List.getElem?_append_left (by omega)]; exact HY.out
                  clear hn hh
                  go_wp2_with fail
                  (refine wp_region_quiet_more (by kernel_rfl) (by kernel_rfl) ?_; (repeat (first | go_big_quiet_skip | quiet_step ((first | (go_at_call 51; refine Calls.more_bool true HH.out (isFor_any _ _ _ _ yf (HYF'.out.below (by (repeat (first | exact Below.refl _ _ | assumption | refine nw_more ?_ _ _ | refine nw_alloc ?_ _ | refine nw_drew ?_ | refine nw_drewN ?_ _ | refine nw_set ?_ (by first | (simp; done) | (simp; omega) | omega) _)))) HYR.out)) | (go_at_call 59; refine Calls.more_bool false HN.out (isOwner_any _ _ R _ (HR.out.below (by (repeat (first | exact Below.refl _ _ | assumption | refine nw_more ?_ _ _ | refine nw_alloc ?_ _ | refine nw_drew ?_ | refine nw_drewN ?_ _ | refine nw_set ?_ (by first | (simp; done) | (simp; omega) | omega) _)))))))))); refine wpQuiet_nil ?_; intro _ hw'; obtain ⟨⟨nq, esq⟩, hw''⟩ := hw'; subst hw''; dsimp only)
                  go_wp2_with (at_builtin; refine wpList_append_own _ rfl _ _ 27 rfl w.heap.size 41 i0 (.agg #[.int .i64 0, .slice none 0 0]) 2 32 Try.underlying27 HI.out hz0 hz1 hz2 rfl (by decide) _ _ _ rfl (own_below HO.out (by (repeat (first | exact Below.refl _ _ | assumption | refine nw_more ?_ _ _ | refine nw_alloc ?_ _ | refine nw_drew ?_ | refine nw_drewN ?_ _ | refine nw_set ?_ (by first | (simp; done) | (simp; omega) | omega) _)))) ⟨_, 0, none⟩ 1 1 [.int .i64 xo, (.slice fp xf.length fc)] rfl rfl ?c1 ?c2 ?c3 ?c4 ?c5 ?_)
                  ((case c1 => exact news2 (by simp [go_sem]) (by simp [go_sem])); (case c2 => exact news2_one rfl rfl); (case c3 => have hfit := hRP; unfold maxLen; omega); (case c4 => have hfit := hRP; omega); (case c5 => have := HB.out.size; simp; omega))
                  intro v' w1 hown' hgrow hnil
                  have HO' := Lib.hid (own_snoc (x := ⟨xo, .slice fp xf.length fc, xf⟩) hown')
                  have HB' := Lib.hid (below_append (w := w) (by have hbel := HB.out; (repeat (first | exact Below.refl _ _ | assumption | refine nw_more ?_ _ _ | refine nw_alloc ?_ _ | refine nw_drew ?_ | refine nw_drewN ?_ _ | refine nw_set ?_ (by first | (simp; done) | (simp; omega) | omega) _))) (own_below HO.out (by (repeat (first | exact Below.refl _ _ | assumption | refine nw_more ?_ _ _ | refine nw_alloc ?_ _ | refine nw_drew ?_ | refine nw_drewN ?_ _ | refine nw_set ?_ (by first | (simp; done) | (simp; omega) | omega) _)))) hgrow)
                  clear hown' hgrow hnil HO HB HT1 HR HYF'
                  go_wp2
                  go_roundg (P.length + 1 - k - 1)
                  case measure => omega
                  case rel => exact ⟨k + 1, _, by omega, by omega, by go_num, by simp; omega, HY2, HT2, HF2, Lib.hid (sub_snoc HS.out HX.out), HO', HB'⟩
                · have HN := Lib.hid hn
                  have HT2 : Hid (scan (yo, yf) ((P.drop (k + 1)).map Wv.pl) (R.map Wv.pl) = scan (yo, yf) (P.map Wv.pl) (Q.map Wv.pl)) := by
                    have := HT1.out; rw [scan_old (x := (xo, xf)) _ _ hn] at this; exact this
                  clear hn hh
                  go_wp2_with fail
                  (refine wp_region_quiet_more (by kernel_rfl) (by kernel_rfl) ?_; (repeat (first | go_big_quiet_skip | quiet_step ((first | (go_at_call 51; refine Calls.more_bool true HH.out (isFor_any _ _ _ _ yf (HYF'.out.below (by (repeat (first | exact Below.refl _ _ | assumption | refine nw_more ?_ _ _ | refine nw_alloc ?_ _ | refine nw_drew ?_ | refine nw_drewN ?_ _ | refine nw_set ?_ (by first | (simp; done) | (simp; omega) | omega) _)))) HYR.out)) | (go_at_call 59; refine Calls.more_bool true HN.out (isOwner_any _ _ R _ (HR.out.below (by (repeat (first | exact Below.refl _ _ | assumption | refine nw_more ?_ _ _ | refine nw_alloc ?_ _ | refine nw_drew ?_ | refine nw_drewN ?_ _ | refine nw_set ?_ (by first | (simp; done) | (simp; omega) | omega) _)))))))))); refine wpQuiet_nil ?_; intro _ hw'; obtain ⟨⟨nq, esq⟩, hw''⟩ := hw'; subst hw''; dsimp only)
                  go_wp2
                  go_roundg (P.length + 1 - k - 1)
                  case measure => omega
                  case rel => exact ⟨k + 1, R, by omega, by omega, by go_num, hQR, HY, HT2, HF, HS, Lib.hid (own_below HO.out (by (repeat (first | exact Below.refl _ _ | assumption | refine nw_more ?_ _ _ | refine nw_alloc ?_ _ | refine nw_drew ?_ | refine nw_drewN ?_ _ | refine nw_set ?_ (by first | (simp; done) | (simp; omega) | omega) _)))), Lib.hid (by have hbel := HB.out; (repeat (first | exact Below.refl _ _ | assumption | refine nw_more ?_ _ _ | refine nw_alloc ?_ _ | refine nw_drew ?_ | refine nw_drewN ?_ _ | refine nw_set ?_ (by first | (simp; done) | (simp; omega) | omega) _)))⟩
            · have e : k = P.length := by omega
              have HG2 : Hid (follow (P.map Wv.pl) g (i + 1) (R.map Wv.pl) = followed (P.map Wv.pl) o) := by
                have := HT.out
                rw [e, List.drop_length] at this
                rw [show R.map Wv.pl = scan Y.pl (P.map Wv.pl) (Q.map Wv.pl) from this]; exact HG1.out
              clear e HT HG1
              go_wp2
              go_roundg g
              case measure => omega
              case rel => exact ⟨i + 1, R, by omega, by go_num, by omega, HG2, HF, HS, HO, HB⟩
        · have HE : Hid (Q.map Wv.pl = followed (P.map Wv.pl) o) := by
            have := HG.out; rw [follow_done (by simp; omega)] at this; exact this
          clear HG
          go_wp2
          go_ret
          exact ⟨_, rfl, ⟨Q, HE.out, HWQ.out⟩, HB.out⟩
end Go.Proofs.Ythkpeddgcglpcaa
