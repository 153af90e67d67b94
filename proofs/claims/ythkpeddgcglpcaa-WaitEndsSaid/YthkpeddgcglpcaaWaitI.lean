/- Contract of package wait's Reach, of waits that may be and wait for somebody each. -/
import Derived.Test.YthkpeddgcglpcaaWaitH
namespace Go.Proofs.Ythkpeddgcglpcaa
open Go.RowKit

def reachL (l : List Wt) (o : Int) : List Int := Go.Lib.compact (sorted (gather (followed l o) []))

theorem own_appI {B : Nat} {w : World} {v : Value} {c x : List Int} (h : w.ownsRow B 3 1 v (c.length + x.length) (c.map (Value.int .i64) ++ x.map (Value.int .i64))) : OwnI B w v (c ++ x) := by
  unfold OwnI; rw [List.length_append, List.map_append]; exact h

set_option maxRecDepth 100000 in
set_option maxHeartbeats 1000000 in
theorem Reach_any (w : World) (v : Value) (l : List Wt) (o : Int) (h : WaitsAt w v l) (hm : mayB l = true) (hf : ∀ x ∈ l, 0 < x.2.length ∧ x.2.length ≤ 1000) :
    Calls Try.prog 19 #[v, .int .i64 o] w fun e w' => ∃ u, e = .returned (.tuple #[u, .int .i64 0]) ∧ IntsAt w' u (reachL l o) ∧ Below w.heap.size w w' := by
  have HL := Lib.hid h
  have HM := Lib.hid hm
  have hlen := Nat.le_trans (followed_fits hm o).le (may_len hm)
  have HF := Lib.hid (show ∀ x ∈ followed l o, 0 < x.2.length ∧ x.2.length ≤ 1000 from fun x hx => hf x ((followed_fits hm o).2 x hx))
  obtain ⟨i0, hi, hz0, hz1, hz2⟩ := info_parts info_int
  have HI := Lib.hid hi
  clear h hm hf
  go_enter Try.func19, Try.ntmps19
  go_wp2_with (first | (go_at_call 29; refine (waitMayBe_any _ _ l (HL.out.below (by (repeat (first | exact Below.refl _ _ | assumption | refine nw_more ?_ _ _ | refine nw_alloc ?_ _ | refine nw_drew ?_ | refine nw_drewN ?_ _ | refine nw_set ?_ (by first | (simp; done) | (simp; omega) | omega) _))))).mono ?_; rw [HM.out]; (rintro e w' ⟨rfl, hb⟩; obtain ⟨n, es, rfl⟩ := below_more hb; clear hb)))
  refine (followed_any _ _ l _ (HL.out.below (by (repeat (first | exact Below.refl _ _ | assumption | refine nw_more ?_ _ _ | refine nw_alloc ?_ _ | refine nw_drew ?_ | refine nw_drewN ?_ _ | refine nw_set ?_ (by first | (simp; done) | (simp; omega) | omega) _)))) HM.out).mono ?_
  rintro e w1 ⟨u, rfl, ⟨P, hP, hW⟩, hb⟩
  have HB1 : Hid (Below w.heap.size w w1) := Lib.hid (nw_trans (by (repeat (first | exact Below.refl _ _ | assumption | refine nw_more ?_ _ _ | refine nw_alloc ?_ _ | refine nw_drew ?_ | refine nw_drewN ?_ _ | refine nw_set ?_ (by first | (simp; done) | (simp; omega) | omega) _))) hb)
  rw [← hP] at hlen
  rw [List.length_map] at hlen
  have HE := Lib.hid hP
  have HW := Lib.hid hW
  have HF : Hid (∀ x ∈ P, 0 < x.f.length ∧ x.f.length ≤ 1000) := Lib.hid (fun x hx => HF.out x.pl (by rw [← hP]; exact List.mem_map_of_mem (f := Wv.pl) hx))
  obtain ⟨p, cap, rfl, -, -⟩ := hW.at
  clear hP hW hb
  go_wp2_with fail
  go_loopg [6, 16] (P.length + 1) (fun g s6 s16 wr => ∃ (k : Nat) (c : List Int), k ≤ P.length ∧ g + k = P.length + 1 ∧ s16 = .int .i64 k ∧ c.length ≤ k * 1000 ∧ Hid (gather ((P.drop k).map Wv.pl) c = gather (P.map Wv.pl) []) ∧ Hid (OwnI w1.heap.size wr s6 c) ∧ Hid (Below w1.heap.size w1 wr))
  case atStart => exact ⟨0, [], Nat.zero_le _, rfl, rfl, Nat.le_refl _, rfl, OwnI.nil _ _, Below.refl _ _⟩
  case round =>
    obtain ⟨k, c, hk, hg, rfl, hq, HT, HO, HB⟩ := hrel
    obtain rfl : gk = P.length + 1 - k := by omega
    clear hg
    by_cases hlt : k < P.length
    · obtain ⟨p', cap', e', -, ht⟩ := (HW.out.below HB.out).at
      obtain ⟨rfl, rfl⟩ : p = p' ∧ cap = cap' := by simpa using e'
      obtain ⟨b, off, x, rfl, hb, hc, hc1, hf, hd, hxk⟩ := ht k hlt
      have hx := HF.out x (List.mem_of_getElem? hxk)
      obtain ⟨xo, xv, xf⟩ := x
      dsimp only at hc hc1 hf hx
      obtain ⟨hx0, hx1⟩ := hx
      rcases hf.form with ⟨rfl, -⟩ | ⟨fb, foff, fc, rfl, -, -, -, hfb, hfc⟩
      · simp at hx0
      · have HFC := Lib.hid hfc
        have hfb' : Lt fb wr.heap.size := hfb
        have HT1 : Hid (gather ((P.drop (k + 1)).map Wv.pl) (c ++ xf) = gather (P.map Wv.pl) []) := by
          have := HT.out; rw [hd] at this; exact this
        clear hd hxk hf ht e' HT hfc hfb
        go_wp2_with (at_builtin; refine wpList_append_own _ rfl _ _ 23 rfl w1.heap.size 3 i0 (.int .i64 0) 1 8 Try.underlying23 HI.out hz0 hz1 hz2 rfl (by decide) _ _ _ rfl (own_below HO.out (by (repeat (first | exact Below.refl _ _ | assumption | refine nw_more ?_ _ _ | refine nw_alloc ?_ _ | refine nw_drew ?_ | refine nw_drewN ?_ _ | refine nw_set ?_ (by first | (simp; done) | (simp; omega) | omega) _)))) ⟨fb, foff, none⟩ xf.length fc (xf.map (Value.int .i64)) rfl (by simp) ?c1 ?c2 ?c3 ?c4 ?c5 ?_)
        case c1 => exact newsI (fun j hj => by have := HFC.out j hj; simp only [go_sem, hfb', this])
        case c2 => exact newsI_one _
        case c3 => unfold maxLen; omega
        case c4 => omega
        case c5 => have := HB.out.size; simp; omega
        · intro v' w2 hown' hgrow hnil
          have HO' := Lib.hid (own_appI hown')
          have HB' := Lib.hid (below_append (w := w1) (by have hbel := HB.out; (repeat (first | exact Below.refl _ _ | assumption | refine nw_more ?_ _ _ | refine nw_alloc ?_ _ | refine nw_drew ?_ | refine nw_drewN ?_ _ | refine nw_set ?_ (by first | (simp; done) | (simp; omega) | omega) _))) (own_below HO.out (by (repeat (first | exact Below.refl _ _ | assumption | refine nw_more ?_ _ _ | refine nw_alloc ?_ _ | refine nw_drew ?_ | refine nw_drewN ?_ _ | refine nw_set ?_ (by first | (simp; done) | (simp; omega) | omega) _)))) hgrow)
          clear hown' hgrow hnil HO HB HFC
          go_wp2
          go_roundg (P.length + 1 - k - 1)
          case measure => omega
          case rel => exact ⟨k + 1, _, by omega, by omega, by go_num, by simp; omega, HT1, HO', HB'⟩
    · have e : k = P.length := by omega
      have HG : Hid (c = gather (followed l o) []) := by have := HT.out; rw [e, List.drop_length, HE.out] at this; exact this
      clear e HT
      have hcl : c.length ≤ 6000 := by omega
      go_wp2_with fail
      refine (sort_any w1.heap.size _ _ c HO.out HB.out.size (by omega)).mono ?_
      rintro e w3 ⟨rfl, ho, hb⟩
      have HO3 := Lib.hid ho
      have HB3 := Lib.hid (HB.out.trans hb)
      clear ho hb HO HB
      go_wp2_with fail
      refine (compact_any w1.heap.size _ _ (sorted c) HO3.out HB3.out.size (by rw [sorted_length]; omega)).mono ?_
      rintro e w4 ⟨u4, rfl, ho, hb⟩
      have HO4 := Lib.hid ho
      have HB4 := Lib.hid (HB3.out.trans hb)
      clear ho hb HO3 HB3
      go_wp2
      go_ret2
      refine ⟨_, rfl, ?_, HB1.out.trans (HB4.out.mono HB1.out.size)⟩
      unfold reachL
      rw [← HG.out]
      exact HO4.out.at (Nat.le_trans (compact_len _) (by rw [sorted_length]; omega))
end Go.Proofs.Ythkpeddgcglpcaa
