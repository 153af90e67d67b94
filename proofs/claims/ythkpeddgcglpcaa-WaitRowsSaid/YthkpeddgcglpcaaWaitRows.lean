/- WaitRows returns true. -/
import Derived.Test.YthkpeddgcglpcaaWaitJ
namespace Go.Proofs.Ythkpeddgcglpcaa
open Go.RowKit

set_option maxRecDepth 100000 in
set_option maxHeartbeats 4000000 in
theorem waitRows_any (w : World) (lv : Value) (pa pn : Option Addr) (na nn ca cn : Nat) (hna : na ≤ maxLen) (hnn : nn ≤ maxLen) :
    Calls Try.prog 5 #[.agg #[lv, .slice pa na ca, .slice pn nn cn]] w fun e w' => e = .returned (.bool true) ∧ Below w.heap.size w w' := by
  unfold maxLen at hna hnn
  obtain ⟨i0, hi, hz0, hz1, hz2⟩ := info_parts info_wait
  have HI := Lib.hid hi
  clear hi
  go_enter Try.func5, Try.ntmps5
  go_wp2_with (first | (go_at_call 18; refine (within_any _ 5 _ (by decide) (by decide)).mono ?_; rintro e w' ⟨⟨r, hr, rfl⟩, rfl⟩))
  go_loopg [4, 5] (r + 3) (fun g s4 s5 wr => ∃ (k : Nat) (P : List Wv), k ≤ r + 2 ∧ g + k = r + 3 ∧ s5 = .int .i64 k ∧ P.length = k ∧ Hid (P.map Wv.pl = rowL k) ∧ Hid (ForsOwn w.heap.size wr P) ∧ Hid (OwnW w.heap.size wr s4 P) ∧ Hid (Below w.heap.size w wr))
  case atStart => exact ⟨0, [], by omega, by omega, rfl, rfl, rfl, Lib.hid (fun x hx => by cases hx), OwnW.nil _ _, by (repeat (first | exact Below.refl _ _ | assumption | refine nw_more ?_ _ _ | refine nw_alloc ?_ _ | refine nw_drew ?_ | refine nw_drewN ?_ _ | refine nw_set ?_ (by first | (simp; done) | (simp; omega) | omega) _))⟩
  case round =>
    obtain ⟨k, P, hk, hg, rfl, hPk, HP, HF, HO, HB⟩ := hrel
    obtain rfl : gk = r + 3 - k := by omega
    clear hg
    by_cases hlt : k < r + 2
    · have HP2 : Hid ((P ++ [Wv.mk k (.slice (some ⟨wr.heap.size, 0, none⟩) 1 1) [(k : Int) + 1]]).map Wv.pl = rowL (k + 1)) := by
        rw [map_snoc, HP.out, row_snoc]; rfl
      go_wp2_with (at_builtin; refine wpList_append_own _ rfl _ _ 27 rfl w.heap.size 41 i0 (.agg #[.int .i64 0, .slice none 0 0]) 2 32 Try.underlying27 HI.out hz0 hz1 hz2 rfl (by decide) _ _ _ rfl (own_below HO.out (by (repeat (first | exact Below.refl _ _ | assumption | refine nw_more ?_ _ _ | refine nw_alloc ?_ _ | refine nw_drew ?_ | refine nw_drewN ?_ _ | refine nw_set ?_ (by first | (simp; done) | (simp; omega) | omega) _)))) ⟨_, 0, none⟩ 1 1 [.int .i64 (k : Int), (.slice (some ⟨wr.heap.size, 0, none⟩) 1 1)] rfl rfl ?c1 ?c2 ?c3 ?c4 ?c5 ?_)
      ((case c1 => exact news2 (by simp [go_sem]) (by simp [go_sem])); (case c2 => exact news2_one rfl rfl); (case c3 => have hfit := hPk; unfold maxLen; omega); (case c4 => have hfit := hPk; omega); (case c5 => have := HB.out.size; simp; omega))
      intro v' w1 hown' hgrow hnil
      have HO' : Hid (OwnW w.heap.size w1 v' _) := Lib.hid (own_snoc (Q := P) (x := ⟨k, .slice (some ⟨wr.heap.size, 0, none⟩) 1 1, [(k : Int) + 1]⟩) (by rw [hPk]; exact hown'))
      have HF' : Hid (ForsOwn w.heap.size w1 _) := Lib.hid (ForsOwn.snoc (x := ⟨k, .slice (some ⟨wr.heap.size, 0, none⟩) 1 1, [(k : Int) + 1]⟩) (HF.out.below (by (repeat (first | exact Below.refl _ _ | assumption | refine nw_more ?_ _ _ | refine nw_alloc ?_ _ | refine nw_drew ?_ | refine nw_drewN ?_ _ | refine nw_set ?_ (by first | (simp; done) | (simp; omega) | omega) _)))) (own_below HO.out (by (repeat (first | exact Below.refl _ _ | assumption | refine nw_more ?_ _ _ | refine nw_alloc ?_ _ | refine nw_drew ?_ | refine nw_drewN ?_ _ | refine nw_set ?_ (by first | (simp; done) | (simp; omega) | omega) _)))) (own_below (OwnI.lit w.heap.size wr HB.out.size ((k : Int) + 1)) (by (repeat (first | exact Below.refl _ _ | assumption | refine nw_more ?_ _ _ | refine nw_alloc ?_ _ | refine nw_drew ?_ | refine nw_drewN ?_ _ | refine nw_set ?_ (by first | (simp; done) | (simp; omega) | omega) _)))) hgrow)
      have HB' := Lib.hid (below_append (w := w) (by have hbel := HB.out; (repeat (first | exact Below.refl _ _ | assumption | refine nw_more ?_ _ _ | refine nw_alloc ?_ _ | refine nw_drew ?_ | refine nw_drewN ?_ _ | refine nw_set ?_ (by first | (simp; done) | (simp; omega) | omega) _))) (own_below HO.out (by (repeat (first | exact Below.refl _ _ | assumption | refine nw_more ?_ _ _ | refine nw_alloc ?_ _ | refine nw_drew ?_ | refine nw_drewN ?_ _ | refine nw_set ?_ (by first | (simp; done) | (simp; omega) | omega) _)))) hgrow)
      clear hown' hgrow hnil HO HB HF HP
      go_wp2
      go_roundg (r + 3 - k - 1)
      case measure => omega
      case rel => exact ⟨k + 1, _, by omega, by omega, by go_num, by simp; omega, HP2, HF', HO', HB'⟩
    · have e : k = r + 2 := by omega
      have HA : Hid (WaitsAt wr _ (rowL (r + 2))) := Lib.hid (by
        have h := HO.out.at HF.out (by omega) (fun x hx => by
          have h1 := row_for k x.pl (by rw [← HP.out]; exact List.mem_map_of_mem (f := Wv.pl) hx)
          exact Nat.le_trans h1.2 (by omega))
        rw [HP.out, e] at h
        exact h)
      clear e HO HF HP
      have HM := Lib.hid (row_may r hr)
      go_wp2_with fail
      go_loopg [6] (r + 4) (fun g s6 wx => (∃ n es, wx = more wr n es) ∧ ∃ o : Nat, o ≤ r + 3 ∧ g + o = r + 4 ∧ s6 = .int .i64 o)
      case atStart => exact ⟨below_more (Below.refl _ _), 0, by omega, by omega, rfl⟩
      case round =>
        obtain ⟨⟨n, es, rfl⟩, o, ho, hg, rfl⟩ := hrel
        obtain rfl : gk = r + 4 - o := by omega
        clear hg
        by_cases hlt2 : o < r + 3
        · go_wp2_with fail
          refine (Reach_any _ _ (rowL (r + 2)) _ (HA.out.below (by (repeat (first | exact Below.refl _ _ | assumption | refine nw_more ?_ _ _ | refine nw_alloc ?_ _ | refine nw_drew ?_ | refine nw_drewN ?_ _ | refine nw_set ?_ (by first | (simp; done) | (simp; omega) | omega) _)))) HM.out (row_for _)).mono ?_
          rintro e w' ⟨u, rfl, hu, hb⟩
          have hlen := row_reach r o hr hlt2
          obtain ⟨p1, c1, rfl⟩ := hu.slice
          generalize hd : (reachL (rowL (r + 2)) o).length = d at *
          obtain ⟨n1, es1, rfl⟩ := below_more hb
          clear hb hd hu
          have hd1 : (d : Int) = 2 + (r : Int) - (o : Int) := by omega
          go_wp2_with fail
          refine (Circle_any _ _ (rowL (r + 2)) _ (HA.out.below (by (repeat (first | exact Below.refl _ _ | assumption | refine nw_more ?_ _ _ | refine nw_alloc ?_ _ | refine nw_drew ?_ | refine nw_drewN ?_ _ | refine nw_set ?_ (by first | (simp; done) | (simp; omega) | omega) _)))) HM.out).mono ?_
          rintro e w' ⟨u, rfl, hu, hb⟩
          rw [row_circle r hr o hlt2] at hu
          obtain ⟨p2, c2, rfl⟩ := len_nil hu
          obtain ⟨n2, es2, rfl⟩ := below_more hb
          clear hb hu
          go_wp2_with (first | (go_at_call 14; refine (num4_any _ _).mono ?_; rintro e w' ⟨rfl, rfl⟩))
          go_roundg (r + 4 - o - 1)
          case measure => omega
          case rel => exact ⟨below_more (by (repeat (first | exact Below.refl _ _ | assumption | refine nw_more ?_ _ _ | refine nw_alloc ?_ _ | refine nw_drew ?_ | refine nw_drewN ?_ _ | refine nw_set ?_ (by first | (simp; done) | (simp; omega) | omega) _))), o + 1, by omega, by omega, by go_num⟩
        · have hbel := HB.out
          have HBEL := Lib.hid hbel
          clear hbel
          go_wp2_with (first | (go_at_call 17; refine (wakes4_any _).mono ?_; (rintro e w' ⟨rfl, hb⟩; obtain ⟨n, es, rfl⟩ := below_more hb; clear hb)))
          go_ret
          exact ⟨rfl, by have hbel := HBEL.out; (repeat (first | exact Below.refl _ _ | assumption | refine nw_more ?_ _ _ | refine nw_alloc ?_ _ | refine nw_drew ?_ | refine nw_drewN ?_ _ | refine nw_set ?_ (by first | (simp; done) | (simp; omega) | omega) _))⟩
end Go.Proofs.Ythkpeddgcglpcaa
