/- Contracts of package wait, one: lists that rise, ages, who is waited for. -/
import Derived.Test.YthkpeddgcglpcaaRows
import Derived.Test.YthkpeddgcglpcaaWPlain
import Derived.Test.YthkpeddgcglpcaaWLib
import Derived.WalkKit
import Derived.WalkSpells
import Derived.IntWalk
import Derived.Deep.LoopGhost
namespace Go.Proofs.Ythkpeddgcglpcaa
open Go.RowKit

set_option maxHeartbeats 400000 in
theorem rises_any (w : World) (v : Value) (l : List Int) (h : IntsAt w v l) :
    Calls Try.prog 50 #[v] w fun e w' => e = .returned (.bool (risesB l)) ∧ w = w' := by
  obtain ⟨p, cap, rfl, hl, ht⟩ := h.at
  have H := Lib.hid ht
  clear h ht
  go_enter Try.func50, Try.ntmps50
  go_wp2
  go_loop [3, 8] (fun m i => ∃ (a : Int) (k : Nat), k ≤ l.length ∧ Hid (risesFrom a (l.drop k) = risesB l) ∧ m = .int .i64 a ∧ i = .int .i64 k) (fun _ i => l.length - (intOf i).toNat)
  case atStart => exact ⟨_, 0, Nat.zero_le _, rfl, rfl, rfl⟩
  case round =>
    obtain ⟨a, k, hk, HT, rfl, rfl⟩ := hrel
    by_cases hlt : k < l.length
    · obtain ⟨b, off, x, rfl, hb, hc, hd, -⟩ := H.out k hlt
      have HD := Lib.hid hd
      clear hb hd
      by_cases hx : a < x
      · have hx' : ¬ x ≤ a := by omega
        go_wp2
        go_round
        case rel => exact ⟨x, k + 1, by omega, by have := HT.out; rw [HD.out, rises_go _ hx] at this; exact this, rfl, by go_num⟩
        case measure => simp [intOf]; omega
      · have hx' : x ≤ a := by omega
        go_wp2
        go_ret
        exact ⟨ret_bool (by have := HT.out; rw [HD.out, rises_no _ hx'] at this; exact this), rfl⟩
    · have e : k = l.length := by omega
      have HE : Hid (true = risesB l) := by have := HT.out; rw [e, List.drop_length] at this; exact this
      clear e
      go_wp2
      go_ret
      exact ⟨ret_bool HE.out, rfl⟩

set_option maxHeartbeats 400000 in
theorem isFor_any (w : World) (o x : Int) (v : Value) (l : List Int) (h : IntsAt w v l) (hs : risesB l = true) :
    Calls Try.prog 51 #[.agg #[.int .i64 o, v], .int .i64 x] w fun e w' => e = .returned (.bool (has l x)) ∧ Below w.heap.size w w' := by
  have HH := Lib.hid h
  have HS := Lib.hid hs
  clear h hs
  go_enter Try.func51, Try.ntmps51
  go_wp2_with (first | (go_at_call 67; refine (search_any _ _ _ _ (HH.out.below (by (repeat (first | exact Below.refl _ _ | assumption | refine nw_more ?_ _ _ | refine nw_alloc ?_ _ | refine nw_drew ?_ | refine nw_drewN ?_ _ | refine nw_set ?_ (by first | (simp; done) | (simp; omega) | omega) _)))) (rises_le HS.out)).mono ?_; rintro e w' ⟨n, rfl, hb⟩; obtain ⟨n, es, rfl⟩ := below_more hb; clear hb))
  go_ret
  exact ⟨rfl, by (repeat (first | exact Below.refl _ _ | assumption | refine nw_more ?_ _ _ | refine nw_alloc ?_ _ | refine nw_drew ?_ | refine nw_drewN ?_ _ | refine nw_set ?_ (by first | (simp; done) | (simp; omega) | omega) _))⟩

set_option maxHeartbeats 1000000 in
theorem waitMayBe_any (w : World) (v : Value) (l : List Wt) (h : WaitsAt w v l) :
    Calls Try.prog 29 #[v] w fun e w' => e = .returned (.bool (mayB l)) ∧ Below w.heap.size w w' := by
  obtain ⟨P, rfl, hP⟩ := h
  have HP := Lib.hid hP
  obtain ⟨p, cap, rfl, hl, ht⟩ := hP.at
  have H := Lib.hid ht
  clear hP ht
  by_cases h6 : P.length ≤ 6
  · have HB : Hid (mayB (P.map Wv.pl) = mayFrom (-1) (P.map Wv.pl)) := by
      unfold mayB; rw [List.length_map, decide_eq_true h6, Bool.true_and]; rfl
    have h6' : decide ((6 : Int) < (P.length : Int)) = false := by simp; omega
    go_enter Try.func29, Try.ntmps29
    go_wp2
    go_loopg [3, 12] (P.length + 1) (fun g m i wr => (∃ n es, wr = more w n es) ∧ ∃ (a : Int) (k : Nat), k ≤ P.length ∧ g + k = P.length + 1 ∧ Hid (mayFrom a ((P.drop k).map Wv.pl) = mayFrom (-1) (P.map Wv.pl)) ∧ m = .int .i64 a ∧ i = .int .i64 k)
    case atStart => exact ⟨below_more (Below.refl _ _), _, 0, Nat.zero_le _, rfl, rfl, rfl, rfl⟩
    case round =>
      obtain ⟨⟨n, es, rfl⟩, a, k, hk, hg, HT, rfl, rfl⟩ := hrel
      obtain rfl : gk = P.length + 1 - k := by omega
      clear hg
      by_cases hlt : k < P.length
      · obtain ⟨b, off, x, rfl, hb, hc, hc1, hf, hd, -⟩ := H.out k hlt
        have HD := Lib.hid hd
        clear hd
        obtain ⟨xo, xv, xf⟩ := x
        dsimp only at hc hc1 hf
        obtain ⟨fp, fc, rfl⟩ := hf.slice
        have HF := Lib.hid hf
        clear hf
        have HT' : Hid (mayFrom a ((xo, xf) :: (P.drop (k + 1)).map Wv.pl) = mayFrom (-1) (P.map Wv.pl)) := by
          have := HT.out; rw [HD.out] at this; exact this
        clear HT HD H
        by_cases hx : xo ≤ a
        · have HE := Lib.hid ((may_low (x := (xo, xf)) ((P.drop (k + 1)).map Wv.pl) hx).symm.trans HT'.out)
          clear HT'
          go_wp2
          go_ret
          exact ⟨ret_bool (by rw [HB.out, ← HE.out]), by (repeat (first | exact Below.refl _ _ | assumption | refine nw_more ?_ _ _ | refine nw_alloc ?_ _ | refine nw_drew ?_ | refine nw_drewN ?_ _ | refine nw_set ?_ (by first | (simp; done) | (simp; omega) | omega) _))⟩
        · have hx1 : a < xo := by omega
          cases hr : risesB xf
          · have HE := Lib.hid ((may_fall (a := a) (x := (xo, xf)) ((P.drop (k + 1)).map Wv.pl) hr).symm.trans HT'.out)
            clear HT'
            go_wp2_with (first | (go_at_call 50; refine (rises_any _ _ xf (HF.out.below (by (repeat (first | exact Below.refl _ _ | assumption | refine nw_more ?_ _ _ | refine nw_alloc ?_ _ | refine nw_drew ?_ | refine nw_drewN ?_ _ | refine nw_set ?_ (by first | (simp; done) | (simp; omega) | omega) _))))).mono ?_; rintro e w' ⟨rfl, rfl⟩))
            go_ret
            exact ⟨ret_bool (by rw [HB.out, ← HE.out]), by (repeat (first | exact Below.refl _ _ | assumption | refine nw_more ?_ _ _ | refine nw_alloc ?_ _ | refine nw_drew ?_ | refine nw_drewN ?_ _ | refine nw_set ?_ (by first | (simp; done) | (simp; omega) | omega) _))⟩
          · have HR := Lib.hid hr
            cases hs : has xf xo
            · have HE := Lib.hid ((may_go (x := (xo, xf)) ((P.drop (k + 1)).map Wv.pl) hx1 hr hs).symm.trans HT'.out)
              clear HT'
              go_wp2_with (first | (go_at_call 50; refine (rises_any _ _ xf (HF.out.below (by (repeat (first | exact Below.refl _ _ | assumption | refine nw_more ?_ _ _ | refine nw_alloc ?_ _ | refine nw_drew ?_ | refine nw_drewN ?_ _ | refine nw_set ?_ (by first | (simp; done) | (simp; omega) | omega) _))))).mono ?_; rintro e w' ⟨rfl, rfl⟩) | (go_at_call 51; refine (isFor_any _ _ _ _ xf (HF.out.below (by (repeat (first | exact Below.refl _ _ | assumption | refine nw_more ?_ _ _ | refine nw_alloc ?_ _ | refine nw_drew ?_ | refine nw_drewN ?_ _ | refine nw_set ?_ (by first | (simp; done) | (simp; omega) | omega) _)))) HR.out).mono ?_; (rintro e w' ⟨rfl, hb⟩; obtain ⟨n, es, rfl⟩ := below_more hb; clear hb)))
              go_roundg (P.length + 1 - k - 1)
              case measure => omega
              case rel => exact ⟨below_more (by (repeat (first | exact Below.refl _ _ | assumption | refine nw_more ?_ _ _ | refine nw_alloc ?_ _ | refine nw_drew ?_ | refine nw_drewN ?_ _ | refine nw_set ?_ (by first | (simp; done) | (simp; omega) | omega) _))), xo, k + 1, by omega, by omega, HE.out, rfl, by go_num⟩
            · have HE := Lib.hid ((may_self (a := a) (x := (xo, xf)) ((P.drop (k + 1)).map Wv.pl) hs).symm.trans HT'.out)
              clear HT'
              go_wp2_with (first | (go_at_call 50; refine (rises_any _ _ xf (HF.out.below (by (repeat (first | exact Below.refl _ _ | assumption | refine nw_more ?_ _ _ | refine nw_alloc ?_ _ | refine nw_drew ?_ | refine nw_drewN ?_ _ | refine nw_set ?_ (by first | (simp; done) | (simp; omega) | omega) _))))).mono ?_; rintro e w' ⟨rfl, rfl⟩) | (go_at_call 51; refine (isFor_any _ _ _ _ xf (HF.out.below (by (repeat (first | exact Below.refl _ _ | assumption | refine nw_more ?_ _ _ | refine nw_alloc ?_ _ | refine nw_drew ?_ | refine nw_drewN ?_ _ | refine nw_set ?_ (by first | (simp; done) | (simp; omega) | omega) _)))) HR.out).mono ?_; (rintro e w' ⟨rfl, hb⟩; obtain ⟨n, es, rfl⟩ := below_more hb; clear hb)))
              go_ret
              exact ⟨ret_bool (by rw [HB.out, ← HE.out]), by (repeat (first | exact Below.refl _ _ | assumption | refine nw_more ?_ _ _ | refine nw_alloc ?_ _ | refine nw_drew ?_ | refine nw_drewN ?_ _ | refine nw_set ?_ (by first | (simp; done) | (simp; omega) | omega) _))⟩
      · have e : k = P.length := by omega
        have HE : Hid (true = mayFrom (-1) (P.map Wv.pl)) := by have := HT.out; rw [e, List.drop_length] at this; exact this
        clear e HT H
        go_wp2
        go_ret
        exact ⟨ret_bool (by rw [HB.out, ← HE.out]), by (repeat (first | exact Below.refl _ _ | assumption | refine nw_more ?_ _ _ | refine nw_alloc ?_ _ | refine nw_drew ?_ | refine nw_drewN ?_ _ | refine nw_set ?_ (by first | (simp; done) | (simp; omega) | omega) _))⟩
  · have HB : Hid (mayB (P.map Wv.pl) = false) := by
      unfold mayB; rw [List.length_map, decide_eq_false h6, Bool.false_and]; rfl
    have h6' : decide ((6 : Int) < (P.length : Int)) = true := by simp; omega
    go_enter Try.func29, Try.ntmps29
    go_wp2
    go_ret
    exact ⟨ret_bool HB.out.symm, by (repeat (first | exact Below.refl _ _ | assumption | refine nw_more ?_ _ _ | refine nw_alloc ?_ _ | refine nw_drew ?_ | refine nw_drewN ?_ _ | refine nw_set ?_ (by first | (simp; done) | (simp; omega) | omega) _))⟩

set_option maxHeartbeats 400000 in
theorem hasAge_any (w : World) (v : Value) (l : List Int) (o : Int) (h : IntsAt w v l) :
    Calls Try.prog 54 #[v, .int .i64 o] w fun e w' => e = .returned (.bool (ageB l o)) ∧ w = w' := by
  obtain ⟨p, cap, rfl, hl, ht⟩ := h.at
  by_cases h0 : 0 ≤ o
  · by_cases h1 : o < l.length
    · obtain ⟨k, rfl⟩ : ∃ k : Nat, o = k := ⟨o.toNat, by omega⟩
      have hk : k < l.length := by omega
      obtain ⟨b, off, x, rfl, hb, hc, hd, hx⟩ := ht k hk
      have HB : Hid (ageB l k = !(x == 0)) := Lib.hid (by
        unfold ageB; rw [decide_eq_true h0, decide_eq_true h1]; simp [hx])
      clear ht hd hx hb
      go_enter Try.func54, Try.ntmps54
      go_wp2
      all_goals
        go_ret
        exact ⟨ret_bool (by rw [HB.out]; first | rfl | simp [*]), rfl⟩
    · have HB : Hid (ageB l o = false) := Lib.hid (by unfold ageB; rw [decide_eq_false h1]; simp)
      clear ht
      go_enter Try.func54, Try.ntmps54
      go_wp2
      go_ret
      exact ⟨ret_bool HB.out.symm, rfl⟩
  · have HB : Hid (ageB l o = false) := Lib.hid (by unfold ageB; rw [decide_eq_false h0]; simp)
    clear ht
    go_enter Try.func54, Try.ntmps54
    go_wp2
    go_ret
    exact ⟨ret_bool HB.out.symm, rfl⟩

set_option maxHeartbeats 400000 in
theorem haveAges_any (w : World) (v u : Value) (l o : List Int) (h : IntsAt w v l) (ho : IntsAt w u o) :
    Calls Try.prog 55 #[v, u] w fun e w' => e = .returned (.bool (agesAll l o)) ∧ w = w' := by
  have HV := Lib.hid h
  obtain ⟨p, cap, rfl, hl, ht⟩ := ho.at
  have H := Lib.hid ht
  clear h ho ht
  go_enter Try.func55, Try.ntmps55
  go_wp2
  go_loop [9] (fun i => ∃ k : Nat, k ≤ o.length ∧ Hid (agesAll l (o.drop k) = agesAll l o) ∧ i = .int .i64 k) (fun i => o.length - (intOf i).toNat)
  case atStart => exact ⟨0, Nat.zero_le _, rfl, rfl⟩
  case round =>
    obtain ⟨k, hk, HT, rfl⟩ := hrel
    by_cases hlt : k < o.length
    · obtain ⟨b, off, x, rfl, hb, hc, hd, -⟩ := H.out k hlt
      have HE : Hid ((ageB l x && agesAll l (o.drop (k + 1))) = agesAll l o) := by have := HT.out; rw [hd] at this; exact this
      clear hb hd HT
      cases hx : ageB l x
      · have HF : Hid (false = agesAll l o) := by have := HE.out; rw [hx] at this; exact this
        go_wp2_with (first | (go_at_call 54; refine (hasAge_any _ _ l _ HV.out).mono ?_; rintro e w' ⟨rfl, rfl⟩))
        go_ret
        exact ⟨ret_bool HF.out, rfl⟩
      · have HF : Hid (agesAll l (o.drop (k + 1)) = agesAll l o) := by have := HE.out; rw [hx] at this; exact this
        go_wp2_with (first | (go_at_call 54; refine (hasAge_any _ _ l _ HV.out).mono ?_; rintro e w' ⟨rfl, rfl⟩))
        go_round
        case rel => exact ⟨k + 1, by omega, HF.out, by go_num⟩
        case measure => simp [intOf]; omega
    · have e : k = o.length := by omega
      have HE : Hid (true = agesAll l o) := by have := HT.out; rw [e, List.drop_length] at this; exact this
      clear e
      go_wp2
      go_ret
      exact ⟨ret_bool HE.out, rfl⟩

set_option maxHeartbeats 1000000 in
theorem allHaveAges_any (w : World) (v u : Value) (l : List Wt) (a : List Int) (h : WaitsAt w v l) (ha : IntsAt w u a) :
    Calls Try.prog 32 #[v, u] w fun e w' => e = .returned (.bool (allAges a l)) ∧ Below w.heap.size w w' := by
  obtain ⟨P, rfl, hP⟩ := h
  obtain ⟨p, cap, rfl, hl, ht⟩ := hP.at
  have H := Lib.hid ht
  have HA := Lib.hid ha
  clear hP ht ha
  go_enter Try.func32, Try.ntmps32
  go_wp2
  go_loopg [9] (P.length + 1) (fun g i wr => (∃ n es, wr = more w n es) ∧ ∃ k : Nat, k ≤ P.length ∧ g + k = P.length + 1 ∧ Hid (allAges a ((P.drop k).map Wv.pl) = allAges a (P.map Wv.pl)) ∧ i = .int .i64 k)
  case atStart => exact ⟨below_more (Below.refl _ _), 0, Nat.zero_le _, rfl, rfl, rfl⟩
  case round =>
    obtain ⟨⟨n, es, rfl⟩, k, hk, hg, HT, rfl⟩ := hrel
    obtain rfl : gk = P.length + 1 - k := by omega
    clear hg
    by_cases hlt : k < P.length
    · obtain ⟨b, off, x, rfl, hb, hc, hc1, hf, hd, -⟩ := H.out k hlt
      obtain ⟨xo, xv, xf⟩ := x
      dsimp only at hc hc1 hf
      have HT' : Hid (((ageB a xo && agesAll a xf) && allAges a ((P.drop (k + 1)).map Wv.pl)) = allAges a (P.map Wv.pl)) := by
        have := HT.out; rw [hd] at this; exact this
      obtain ⟨fp, fc, rfl⟩ := hf.slice
      have HF := Lib.hid hf
      clear hf hd HT H
      cases h1 : ageB a xo
      · have HE : Hid (false = allAges a (P.map Wv.pl)) := by have := HT'.out; rw [h1] at this; exact this
        clear HT'
        go_wp2_with (first | (go_at_call 54; refine (hasAge_any _ _ a _ (HA.out.below (by (repeat (first | exact Below.refl _ _ | assumption | refine nw_more ?_ _ _ | refine nw_alloc ?_ _ | refine nw_drew ?_ | refine nw_drewN ?_ _ | refine nw_set ?_ (by first | (simp; done) | (simp; omega) | omega) _))))).mono ?_; rintro e w' ⟨rfl, rfl⟩))
        go_ret
        exact ⟨ret_bool HE.out, by (repeat (first | exact Below.refl _ _ | assumption | refine nw_more ?_ _ _ | refine nw_alloc ?_ _ | refine nw_drew ?_ | refine nw_drewN ?_ _ | refine nw_set ?_ (by first | (simp; done) | (simp; omega) | omega) _))⟩
      · cases h2 : agesAll a xf
        · have HE : Hid (false = allAges a (P.map Wv.pl)) := by have := HT'.out; rw [h1, h2] at this; exact this
          clear HT'
          go_wp2_with (first | (go_at_call 54; refine (hasAge_any _ _ a _ (HA.out.below (by (repeat (first | exact Below.refl _ _ | assumption | refine nw_more ?_ _ _ | refine nw_alloc ?_ _ | refine nw_drew ?_ | refine nw_drewN ?_ _ | refine nw_set ?_ (by first | (simp; done) | (simp; omega) | omega) _))))).mono ?_; rintro e w' ⟨rfl, rfl⟩) | (go_at_call 55; refine (haveAges_any _ _ _ a xf (HA.out.below (by (repeat (first | exact Below.refl _ _ | assumption | refine nw_more ?_ _ _ | refine nw_alloc ?_ _ | refine nw_drew ?_ | refine nw_drewN ?_ _ | refine nw_set ?_ (by first | (simp; done) | (simp; omega) | omega) _)))) (HF.out.below (by (repeat (first | exact Below.refl _ _ | assumption | refine nw_more ?_ _ _ | refine nw_alloc ?_ _ | refine nw_drew ?_ | refine nw_drewN ?_ _ | refine nw_set ?_ (by first | (simp; done) | (simp; omega) | omega) _))))).mono ?_; rintro e w' ⟨rfl, rfl⟩))
          go_ret
          exact ⟨ret_bool HE.out, by (repeat (first | exact Below.refl _ _ | assumption | refine nw_more ?_ _ _ | refine nw_alloc ?_ _ | refine nw_drew ?_ | refine nw_drewN ?_ _ | refine nw_set ?_ (by first | (simp; done) | (simp; omega) | omega) _))⟩
        · have HE : Hid (allAges a ((P.drop (k + 1)).map Wv.pl) = allAges a (P.map Wv.pl)) := by have := HT'.out; rw [h1, h2] at this; exact this
          clear HT'
          go_wp2_with (first | (go_at_call 54; refine (hasAge_any _ _ a _ (HA.out.below (by (repeat (first | exact Below.refl _ _ | assumption | refine nw_more ?_ _ _ | refine nw_alloc ?_ _ | refine nw_drew ?_ | refine nw_drewN ?_ _ | refine nw_set ?_ (by first | (simp; done) | (simp; omega) | omega) _))))).mono ?_; rintro e w' ⟨rfl, rfl⟩) | (go_at_call 55; refine (haveAges_any _ _ _ a xf (HA.out.below (by (repeat (first | exact Below.refl _ _ | assumption | refine nw_more ?_ _ _ | refine nw_alloc ?_ _ | refine nw_drew ?_ | refine nw_drewN ?_ _ | refine nw_set ?_ (by first | (simp; done) | (simp; omega) | omega) _)))) (HF.out.below (by (repeat (first | exact Below.refl _ _ | assumption | refine nw_more ?_ _ _ | refine nw_alloc ?_ _ | refine nw_drew ?_ | refine nw_drewN ?_ _ | refine nw_set ?_ (by first | (simp; done) | (simp; omega) | omega) _))))).mono ?_; rintro e w' ⟨rfl, rfl⟩))
          go_roundg (P.length + 1 - k - 1)
          case measure => omega
          case rel => exact ⟨below_more (by (repeat (first | exact Below.refl _ _ | assumption | refine nw_more ?_ _ _ | refine nw_alloc ?_ _ | refine nw_drew ?_ | refine nw_drewN ?_ _ | refine nw_set ?_ (by first | (simp; done) | (simp; omega) | omega) _))), k + 1, by omega, by omega, HE.out, by go_num⟩
    · have e : k = P.length := by omega
      have HE : Hid (true = allAges a (P.map Wv.pl)) := by have := HT.out; rw [e, List.drop_length] at this; exact this
      clear e HT H
      go_wp2
      go_ret
      exact ⟨ret_bool HE.out, by (repeat (first | exact Below.refl _ _ | assumption | refine nw_more ?_ _ _ | refine nw_alloc ?_ _ | refine nw_drew ?_ | refine nw_drewN ?_ _ | refine nw_set ?_ (by first | (simp; done) | (simp; omega) | omega) _))⟩
end Go.Proofs.Ythkpeddgcglpcaa
