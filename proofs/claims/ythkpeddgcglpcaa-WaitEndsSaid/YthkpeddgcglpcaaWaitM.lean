/- Contracts of the page's own helpers: copies of waits, which waits may be. -/
import Derived.Test.YthkpeddgcglpcaaWaitL
namespace Go.Proofs.Ythkpeddgcglpcaa
open Go.RowKit

set_option maxRecDepth 100000 in
set_option maxHeartbeats 1000000 in
theorem copyWaits_any (w : World) (v : Value) (P : List Wv) (h : WvAt w v P) :
    Calls Try.prog 8 #[v] w fun e w' => ∃ u Q, e = .returned u ∧ Q.map Wv.pl = P.map Wv.pl ∧ OwnW w.heap.size w' u Q ∧ ForsOwn w.heap.size w' Q ∧ Below w.heap.size w w' := by
  have HP := Lib.hid h
  obtain ⟨p, cap, rfl, hl, -⟩ := h.at
  obtain ⟨i0, hi, hz0, hz1, hz2⟩ := info_parts info_wait
  have HI := Lib.hid hi
  clear h hi
  go_enter Try.func8, Try.ntmps8
  go_wp2
  go_loopg [3, 4] (P.length + 1) (fun g s3 s4 wr => ∃ (k : Nat) (Q : List Wv), k ≤ P.length ∧ g + k = P.length + 1 ∧ s4 = .int .i64 k ∧ Hid (Q.length = k) ∧ Hid (Q.map Wv.pl = (P.take k).map Wv.pl) ∧ Hid (ForsOwn w.heap.size wr Q) ∧ Hid (OwnW w.heap.size wr s3 Q) ∧ Hid (Below w.heap.size w wr))
  case atStart => exact ⟨0, [], Nat.zero_le _, rfl, rfl, rfl, rfl, Lib.hid (fun x hx => by cases hx), OwnW.nil _ _, Below.refl _ _⟩
  case round =>
    obtain ⟨k, Q, hk, hg, rfl, HK, HQ, HF, HO, HB⟩ := hrel
    obtain rfl : gk = P.length + 1 - k := by omega
    clear hg
    by_cases hlt : k < P.length
    · obtain ⟨p', cap', e', -, ht⟩ := (HP.out.below HB.out).at
      obtain ⟨rfl, rfl⟩ : p = p' ∧ cap = cap' := by simpa using e'
      obtain ⟨b, off, x, rfl, hb, hc, hc1, hf, -, hx⟩ := ht k hlt
      have HT : Hid ((P.take (k + 1)).map Wv.pl = (P.take k).map Wv.pl ++ [x.pl]) := Lib.hid (by rw [List.take_add_one, hx, List.map_append]; rfl)
      obtain ⟨xo, xv, xf⟩ := x
      dsimp only at hc hc1 hf
      obtain ⟨fp, fc, rfl⟩ := hf.slice
      have HXF := Lib.hid hf
      clear ht hx e' hf
      go_wp2_with fail
      refine (copyWait_any _ _ _ xf (HXF.out.below (by (repeat (first | exact Below.refl _ _ | assumption | refine nw_more ?_ _ _ | refine nw_alloc ?_ _ | refine nw_drew ?_ | refine nw_drewN ?_ _ | refine nw_set ?_ (by first | (simp; done) | (simp; omega) | omega) _))))).mono ?_
      rintro e w1 ⟨u, rfl, ho, hb1⟩
      have HU : Hid (OwnI w.heap.size w1 u xf) := Lib.hid (OwnI.mono ho HB.out.size)
      have HF1 := Lib.hid (HF.out.below hb1)
      have HO1 : Hid (OwnW w.heap.size w1 _ Q) := Lib.hid (own_below HO.out hb1)
      have HB1 := Lib.hid (nw_trans HB.out hb1)
      obtain ⟨q, qc, rfl⟩ : ∃ q qc, u = .slice q xf.length qc := by
        rcases ho.2 with ⟨rfl, h0⟩ | ⟨g, c, cur, rfl, -⟩
        · exact ⟨none, 0, by rw [h0]⟩
        · exact ⟨_, _, rfl⟩
      clear ho hb1 HF HO HB HXF
      have HO := HO1
      have HB := HB1
      have hQl : Q.length ≤ 1000000 := by rw [HK.out]; omega
      go_wp2_with (at_builtin; refine wpList_append_own _ rfl _ _ 27 rfl w.heap.size 41 i0 (.agg #[.int .i64 0, .slice none 0 0]) 2 32 Try.underlying27 HI.out hz0 hz1 hz2 rfl (by decide) _ _ _ rfl (own_below HO.out (by (repeat (first | exact Below.refl _ _ | assumption | refine nw_more ?_ _ _ | refine nw_alloc ?_ _ | refine nw_drew ?_ | refine nw_drewN ?_ _ | refine nw_set ?_ (by first | (simp; done) | (simp; omega) | omega) _)))) ⟨_, 0, none⟩ 1 1 [.int .i64 xo, (.slice q xf.length qc)] rfl rfl ?c1 ?c2 ?c3 ?c4 ?c5 ?_)
      ((case c1 => exact news2 (by simp [go_sem]) (by simp [go_sem])); (case c2 => exact news2_one rfl rfl); (case c3 => have hfit := hQl; unfold maxLen; omega); (case c4 => have hfit := hQl; omega); (case c5 => have := HB.out.size; simp; omega))
      intro v' w2 hown' hgrow hnil
      have HO' : Hid (OwnW w.heap.size w2 v' _) := Lib.hid (own_snoc (Q := Q) (x := ⟨xo, .slice q xf.length qc, xf⟩) hown')
      have HF' : Hid (ForsOwn w.heap.size w2 _) := Lib.hid (ForsOwn.snoc (x := ⟨xo, .slice q xf.length qc, xf⟩) (HF1.out.below (by (repeat (first | exact Below.refl _ _ | assumption | refine nw_more ?_ _ _ | refine nw_alloc ?_ _ | refine nw_drew ?_ | refine nw_drewN ?_ _ | refine nw_set ?_ (by first | (simp; done) | (simp; omega) | omega) _)))) (own_below HO.out (by (repeat (first | exact Below.refl _ _ | assumption | refine nw_more ?_ _ _ | refine nw_alloc ?_ _ | refine nw_drew ?_ | refine nw_drewN ?_ _ | refine nw_set ?_ (by first | (simp; done) | (simp; omega) | omega) _)))) (own_below HU.out (by (repeat (first | exact Below.refl _ _ | assumption | refine nw_more ?_ _ _ | refine nw_alloc ?_ _ | refine nw_drew ?_ | refine nw_drewN ?_ _ | refine nw_set ?_ (by first | (simp; done) | (simp; omega) | omega) _)))) hgrow)
      have HB' := Lib.hid (below_append (w := w) (by have hbel := HB.out; (repeat (first | exact Below.refl _ _ | assumption | refine nw_more ?_ _ _ | refine nw_alloc ?_ _ | refine nw_drew ?_ | refine nw_drewN ?_ _ | refine nw_set ?_ (by first | (simp; done) | (simp; omega) | omega) _))) (own_below HO.out (by (repeat (first | exact Below.refl _ _ | assumption | refine nw_more ?_ _ _ | refine nw_alloc ?_ _ | refine nw_drew ?_ | refine nw_drewN ?_ _ | refine nw_set ?_ (by first | (simp; done) | (simp; omega) | omega) _)))) hgrow)
      have HQ' : Hid ((Q ++ [Wv.mk xo (.slice q xf.length qc) xf]).map Wv.pl = (P.take (k + 1)).map Wv.pl) := Lib.hid (by rw [map_snoc, HQ.out, HT.out]; rfl)
      clear hown' hgrow hnil HO HB HF1 HO1 HB1 HU HQ
      go_wp2
      go_roundg (P.length + 1 - k - 1)
      case measure => omega
      case rel => exact ⟨k + 1, _, by omega, by omega, by go_num, Lib.hid (by rw [List.length_append, HK.out]; rfl), HQ', HF', HO', HB'⟩
    · have e : k = P.length := by omega
      have HE : Hid (Q.map Wv.pl = P.map Wv.pl) := Lib.hid (by rw [HQ.out, e, List.take_length])
      clear e HQ
      go_wp2
      go_ret
      exact ⟨_, _, rfl, HE.out, HO.out, HF.out, HB.out⟩
end Go.Proofs.Ythkpeddgcglpcaa
