/- Contracts of package wait: who leads to whom; circles. -/
import Derived.Test.YthkpeddgcglpcaaWaitD
namespace Go.Proofs.Ythkpeddgcglpcaa
open Go.RowKit

theorem followed_rises {l : List Wt} (h : mayB l = true) (o : Int) : ∀ x ∈ followed l o, risesB x.2 = true :=
  fun x hx => may_rises h x ((followed_fits h o).2 x hx)

set_option maxHeartbeats 1000000 in
theorem leads_any (w : World) (v : Value) (l : List Wt) (a b : Int) (h : WaitsAt w v l) (hm : mayB l = true) :
    Calls Try.prog 52 #[v, .int .i64 a, .int .i64 b] w fun e w' => e = .returned (.bool (leadsB l a b)) ∧ Below w.heap.size w w' := by
  have HL := Lib.hid h
  have HM := Lib.hid hm
  clear h hm
  go_enter Try.func52, Try.ntmps52
  go_wp2_with (first
    | (go_at_call 35; refine (followed_any _ _ l _ (HL.out.below (by (repeat (first | exact Below.refl _ _ | assumption | refine nw_more ?_ _ _ | refine nw_alloc ?_ _ | refine nw_drew ?_ | refine nw_drewN ?_ _ | refine nw_set ?_ (by first | (simp; done) | (simp; omega) | omega) _)))) HM.out).mono ?_; rintro e w' ⟨u, rfl, hu, hb⟩; obtain ⟨Q, hQ, hW⟩ := hu; have HW := Lib.hid hW; have HR := Lib.hid (show ∀ x ∈ Q, risesB x.f = true from fun x hx => followed_rises HM.out _ _ (by rw [← hQ]; exact List.mem_map_of_mem (f := Wv.pl) hx)); have HQ := Lib.hid hQ; obtain ⟨n, es, rfl⟩ := below_more hb; clear hb hQ hW)
    | (go_at_call 68; refine (containsFor_any _ _ Q _ b HW.out HR.out (by simp [go_sem]) (by simp [go_sem])).mono ?_; rw [HQ.out]; (rintro e w' ⟨rfl, hb⟩; obtain ⟨n, es, rfl⟩ := below_more hb; clear hb)))
  go_ret
  exact ⟨rfl, by (repeat (first | exact Below.refl _ _ | assumption | refine nw_more ?_ _ _ | refine nw_alloc ?_ _ | refine nw_drew ?_ | refine nw_drewN ?_ _ | refine nw_set ?_ (by first | (simp; done) | (simp; omega) | omega) _))⟩

theorem circle_go {l : List Wt} {o : Int} {x : Wt} (r : List Wt) (p : List Int) (h : leadsB l o x.1 = true) (h2 : leadsB l x.1 o = true) : circleFrom l o (x :: r) p = circleFrom l o r (p ++ [x.1]) := by
  rw [circleFrom, h, h2]; rfl
theorem circle_no1 {l : List Wt} {o : Int} {x : Wt} (r : List Wt) (p : List Int) (h : leadsB l o x.1 = false) : circleFrom l o (x :: r) p = circleFrom l o r p := by
  rw [circleFrom, h]; rfl
theorem circle_no2 {l : List Wt} {o : Int} {x : Wt} (r : List Wt) (p : List Int) (h2 : leadsB l x.1 o = false) : circleFrom l o (x :: r) p = circleFrom l o r p := by
  rw [circleFrom, h2]; simp
theorem own_snocI {B : Nat} {w : World} {v : Value} {c : List Int} {x : Int} (h : w.ownsRow B 3 1 v (c.length + 1) (c.map (Value.int .i64) ++ [.int .i64 x])) : OwnI B w v (c ++ [x]) := by
  unfold OwnI; rw [List.length_append, List.map_append]; exact h

set_option maxRecDepth 100000 in
set_option maxHeartbeats 1000000 in
theorem circle_any (w : World) (v : Value) (l : List Wt) (o : Int) (h : WaitsAt w v l) (hm : mayB l = true) :
    Calls Try.prog 30 #[v, .int .i64 o] w fun e w' => ∃ u, e = .returned u ∧ OwnI w.heap.size w' u (circleL l o) ∧ Below w.heap.size w w' := by
  have HL := Lib.hid h
  have HM := Lib.hid hm
  have hl6 := may_len hm
  obtain ⟨P, rfl, hP⟩ := h
  rw [List.length_map] at hl6
  obtain ⟨i0, hi, hz0, hz1, hz2⟩ := info_parts info_int
  have HI := Lib.hid hi
  have HP := Lib.hid hP
  obtain ⟨p, cap, rfl, hl, -⟩ := hP.at
  clear hP hm
  go_enter Try.func30, Try.ntmps30
  go_wp2
  go_loopg [5, 10] (P.length + 1) (fun g s5 s10 wr => ∃ (k : Nat) (c : List Int), k ≤ P.length ∧ g + k = P.length + 1 ∧ s10 = .int .i64 k ∧ c.length ≤ k ∧ Hid (circleFrom (P.map Wv.pl) o ((P.drop k).map Wv.pl) c = circleL (P.map Wv.pl) o) ∧ Hid (OwnI w.heap.size wr s5 c) ∧ Hid (Below w.heap.size w wr))
  case atStart => exact ⟨0, [], Nat.zero_le _, rfl, rfl, Nat.le_refl _, rfl, OwnI.nil _ _, Below.refl _ _⟩
  case round =>
    obtain ⟨k, c, hk, hg, rfl, hq, HT, HO, HB⟩ := hrel
    obtain rfl : gk = P.length + 1 - k := by omega
    clear hg
    by_cases hlt : k < P.length
    · obtain ⟨p', cap', e', -, ht⟩ := (HP.out.below HB.out).at
      obtain ⟨rfl, rfl⟩ : p = p' ∧ cap = cap' := by simpa using e'
      obtain ⟨b, off, x, rfl, hb, hc, hc1, hf, hd, hxk⟩ := ht k hlt
      obtain ⟨xo, xv, xf⟩ := x
      dsimp only at hc hc1 hf
      obtain ⟨fp, fc, rfl⟩ := hf.slice
      have HT1 : Hid (circleFrom (P.map Wv.pl) o ((xo, xf) :: (P.drop (k + 1)).map Wv.pl) c = circleL (P.map Wv.pl) o) := by
        have := HT.out; rw [hd] at this; exact this
      clear hd hxk hf ht e' HT
      have HL0 := HL
      have HL : Hid (WaitsAt wr (.slice (some ⟨b, off, none⟩) P.length cap) (P.map Wv.pl)) := Lib.hid (HL0.out.below HB.out)
      clear HL0
      cases h1 : leadsB (P.map Wv.pl) o xo
      · have H1 := Lib.hid h1
        have H2 := H1
        have HT2 : Hid (circleFrom (P.map Wv.pl) o ((P.drop (k + 1)).map Wv.pl) c = circleL (P.map Wv.pl) o) := by
          have := HT1.out; rw [circle_no1 (x := (xo, xf)) _ _ h1] at this; exact this
        clear h1 HT1
        go_wp2_with (first | (go_at_call 52; refine (leads_any _ _ (P.map Wv.pl) _ _ (HL.out.below (by (repeat (first | exact Below.refl _ _ | assumption | refine nw_more ?_ _ _ | refine nw_alloc ?_ _ | refine nw_drew ?_ | refine nw_drewN ?_ _ | refine nw_set ?_ (by first | (simp; done) | (simp; omega) | omega) _)))) HM.out).mono ?_; (first | rw [H1.out] | rw [H2.out]); (rintro e w' ⟨rfl, hb⟩; obtain ⟨n, es, rfl⟩ := below_more hb; clear hb)))
        go_roundg (P.length + 1 - k - 1)
        case measure => omega
        case rel => exact ⟨k + 1, c, by omega, by omega, by go_num, by omega, HT2, Lib.hid (own_below HO.out (by (repeat (first | exact Below.refl _ _ | assumption | refine nw_more ?_ _ _ | refine nw_alloc ?_ _ | refine nw_drew ?_ | refine nw_drewN ?_ _ | refine nw_set ?_ (by first | (simp; done) | (simp; omega) | omega) _)))), Lib.hid (by have hbel := HB.out; (repeat (first | exact Below.refl _ _ | assumption | refine nw_more ?_ _ _ | refine nw_alloc ?_ _ | refine nw_drew ?_ | refine nw_drewN ?_ _ | refine nw_set ?_ (by first | (simp; done) | (simp; omega) | omega) _)))⟩
      · have H1 := Lib.hid h1
        cases h2 : leadsB (P.map Wv.pl) xo o
        · have H2 := Lib.hid h2
          have HT2 : Hid (circleFrom (P.map Wv.pl) o ((P.drop (k + 1)).map Wv.pl) c = circleL (P.map Wv.pl) o) := by
            have := HT1.out; rw [circle_no2 (x := (xo, xf)) _ _ h2] at this; exact this
          clear h1 h2 HT1
          go_wp2_with (first | (go_at_call 52; refine (leads_any _ _ (P.map Wv.pl) _ _ (HL.out.below (by (repeat (first | exact Below.refl _ _ | assumption | refine nw_more ?_ _ _ | refine nw_alloc ?_ _ | refine nw_drew ?_ | refine nw_drewN ?_ _ | refine nw_set ?_ (by first | (simp; done) | (simp; omega) | omega) _)))) HM.out).mono ?_; (first | rw [H1.out] | rw [H2.out]); (rintro e w' ⟨rfl, hb⟩; obtain ⟨n, es, rfl⟩ := below_more hb; clear hb)))
          go_roundg (P.length + 1 - k - 1)
          case measure => omega
          case rel => exact ⟨k + 1, c, by omega, by omega, by go_num, by omega, HT2, Lib.hid (own_below HO.out (by (repeat (first | exact Below.refl _ _ | assumption | refine nw_more ?_ _ _ | refine nw_alloc ?_ _ | refine nw_drew ?_ | refine nw_drewN ?_ _ | refine nw_set ?_ (by first | (simp; done) | (simp; omega) | omega) _)))), Lib.hid (by have hbel := HB.out; (repeat (first | exact Below.refl _ _ | assumption | refine nw_more ?_ _ _ | refine nw_alloc ?_ _ | refine nw_drew ?_ | refine nw_drewN ?_ _ | refine nw_set ?_ (by first | (simp; done) | (simp; omega) | omega) _)))⟩
        · have H2 := Lib.hid h2
          have HT2 : Hid (circleFrom (P.map Wv.pl) o ((P.drop (k + 1)).map Wv.pl) (c ++ [xo]) = circleL (P.map Wv.pl) o) := by
            have := HT1.out; rw [circle_go (x := (xo, xf)) _ _ h1 h2] at this; exact this
          clear h1 h2 HT1
          go_wp2_with (first | (go_at_call 52; refine (leads_any _ _ (P.map Wv.pl) _ _ (HL.out.below (by (repeat (first | exact Below.refl _ _ | assumption | refine nw_more ?_ _ _ | refine nw_alloc ?_ _ | refine nw_drew ?_ | refine nw_drewN ?_ _ | refine nw_set ?_ (by first | (simp; done) | (simp; omega) | omega) _)))) HM.out).mono ?_; (first | rw [H1.out] | rw [H2.out]); (rintro e w' ⟨rfl, hb⟩; obtain ⟨n, es, rfl⟩ := below_more hb; clear hb)) | (at_builtin; refine wpList_append_own _ rfl _ _ 23 rfl w.heap.size 3 i0 (.int .i64 0) 1 8 Try.underlying23 HI.out hz0 hz1 hz2 rfl (by decide) _ _ _ rfl (own_below HO.out (by (repeat (first | exact Below.refl _ _ | assumption | refine nw_more ?_ _ _ | refine nw_alloc ?_ _ | refine nw_drew ?_ | refine nw_drewN ?_ _ | refine nw_set ?_ (by first | (simp; done) | (simp; omega) | omega) _)))) ⟨_, 0, none⟩ 1 1 [.int .i64 xo] rfl rfl ?c1 ?c2 ?c3 ?c4 ?c5 ?_))
          ((case c1 => exact news1 (by simp [go_sem])); (case c2 => exact news1_one rfl); (case c3 => have hfit := hq; unfold maxLen; omega); (case c4 => have hfit := hq; omega); (case c5 => have := HB.out.size; simp; omega))
          intro v' w1 hown' hgrow hnil
          have HO' := Lib.hid (own_snocI hown')
          have HB' := Lib.hid (below_append (w := w) (by have hbel := HB.out; (repeat (first | exact Below.refl _ _ | assumption | refine nw_more ?_ _ _ | refine nw_alloc ?_ _ | refine nw_drew ?_ | refine nw_drewN ?_ _ | refine nw_set ?_ (by first | (simp; done) | (simp; omega) | omega) _))) (own_below HO.out (by (repeat (first | exact Below.refl _ _ | assumption | refine nw_more ?_ _ _ | refine nw_alloc ?_ _ | refine nw_drew ?_ | refine nw_drewN ?_ _ | refine nw_set ?_ (by first | (simp; done) | (simp; omega) | omega) _)))) hgrow)
          clear hown' hgrow hnil HO HB HL
          go_wp2
          go_roundg (P.length + 1 - k - 1)
          case measure => omega
          case rel => exact ⟨k + 1, _, by omega, by omega, by go_num, by simp; omega, HT2, HO', HB'⟩
    · have e : k = P.length := by omega
      have HE : Hid (c = circleL (P.map Wv.pl) o) := by have := HT.out; rw [e, List.drop_length] at this; exact this
      clear e HT
      go_wp2
      go_ret
      exact ⟨_, rfl, by rw [← HE.out]; exact HO.out, HB.out⟩
end Go.Proofs.Ythkpeddgcglpcaa
