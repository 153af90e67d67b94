/- Contracts of package wait, two: the closures; which of some waits meet a test. -/
import Derived.Test.YthkpeddgcglpcaaWaitA
import Derived.Lib.Hide
namespace Go.Proofs.Ythkpeddgcglpcaa
open Go.RowKit

def ownP (c : Int) (x : Wv) : Bool := x.o == c
def forP (c : Int) (x : Wv) : Bool := has x.f c
/-- A place, not below 0 just where there is one. -/
def SomeIdx (w : World) (b : Bool) (e : Ending) (w' : World) : Prop := (∃ n : Int, e = .returned (.int .i64 n) ∧ decide (0 ≤ n) = b) ∧ Below w.heap.size w w'

set_option maxHeartbeats 400000 in
theorem ownClosure_any (w : World) (o c : Int) (v : Value) (l : List Int) (bb : Nat) (h : IntsAt w v l) (hbb : Lt bb w.heap.size) (hcc : w.cell? ⟨bb, 0, none⟩ = some (.int .i64 c)) :
    Calls Try.prog 71 #[.agg #[.int .i64 o, v], .pointer (some ⟨bb, 0, none⟩)] w fun e w' => e = .returned (.bool (ownP c ⟨o, v, l⟩)) ∧ Below w.heap.size w w' := by
  obtain ⟨p, cap, rfl⟩ := h.slice
  clear h
  cases hx : ownP c ⟨o, .slice p l.length cap, l⟩
  all_goals
    have hy : (o == c) = _ := hx
    have HX := Lib.hid hx
    clear hx
    go_enter Try.func71, Try.ntmps71
    go_wp2
    go_ret
    exact ⟨rfl, by (repeat (first | exact Below.refl _ _ | assumption | refine nw_more ?_ _ _ | refine nw_alloc ?_ _ | refine nw_drew ?_ | refine nw_drewN ?_ _ | refine nw_set ?_ (by first | (simp; done) | (simp; omega) | omega) _))⟩

set_option maxHeartbeats 400000 in
theorem forClosure_any (w : World) (o c : Int) (v : Value) (l : List Int) (bb : Nat) (h : IntsAt w v l) (hs : risesB l = true) (hbb : Lt bb w.heap.size) (hcc : w.cell? ⟨bb, 0, none⟩ = some (.int .i64 c)) :
    Calls Try.prog 69 #[.agg #[.int .i64 o, v], .pointer (some ⟨bb, 0, none⟩)] w fun e w' => e = .returned (.bool (forP c ⟨o, v, l⟩)) ∧ Below w.heap.size w w' := by
  obtain ⟨p, cap, rfl⟩ := h.slice
  have HF := Lib.hid h
  have HS := Lib.hid hs
  clear h hs
  go_enter Try.func69, Try.ntmps69
  go_wp2_with (first | (go_at_call 51; refine (isFor_any _ _ _ _ l (HF.out.below (by (repeat (first | exact Below.refl _ _ | assumption | refine nw_more ?_ _ _ | refine nw_alloc ?_ _ | refine nw_drew ?_ | refine nw_drewN ?_ _ | refine nw_set ?_ (by first | (simp; done) | (simp; omega) | omega) _)))) HS.out).mono ?_; (rintro e w' ⟨rfl, hb⟩; obtain ⟨n, es, rfl⟩ := below_more hb; clear hb)))
  go_ret
  exact ⟨rfl, by (repeat (first | exact Below.refl _ _ | assumption | refine nw_more ?_ _ _ | refine nw_alloc ?_ _ | refine nw_drew ?_ | refine nw_drewN ?_ _ | refine nw_set ?_ (by first | (simp; done) | (simp; omega) | omega) _))⟩

set_option maxHeartbeats 1000000 in
theorem idxOwn_any (w : World) (v : Value) (P : List Wv) (bb : Nat) (c : Int) (hP : WvAt w v P) (hbb : Lt bb w.heap.size) (hcc : w.cell? ⟨bb, 0, none⟩ = some (.int .i64 c)) :
    Calls Try.prog 85 #[v, .func (.func 71) #[] #[.pointer (some ⟨bb, 0, none⟩)]] w (SomeIdx w (P.any (ownP c))) := by
  obtain ⟨p, cap, rfl, hl, ht⟩ := hP.at
  have H := Lib.hid ht
  clear hP ht
  go_enter Try.func85, Try.ntmps85
  go_wp2
  go_loopg [8] (P.length + 1) (fun g i wr => (∃ n es, wr = more w n es) ∧ ∃ k : Nat, k ≤ P.length ∧ g + k = P.length + 1 ∧ Hid ((P.drop k).any (ownP c) = P.any (ownP c)) ∧ i = .int .i64 k)
  case atStart => exact ⟨below_more (Below.refl _ _), 0, Nat.zero_le _, rfl, rfl, rfl⟩
  case round =>
    obtain ⟨⟨n, es, rfl⟩, k, hk, hg, HT, rfl⟩ := hrel
    obtain rfl : gk = P.length + 1 - k := by omega
    clear hg
    by_cases hlt : k < P.length
    · obtain ⟨b, off, x, rfl, hb, hc, hc1, hf, hd, hxk⟩ := H.out k hlt
      skip
      have HX := Lib.hid (List.mem_of_getElem? hxk)
      obtain ⟨xo, xv, xf⟩ := x
      dsimp only at hc hc1 hf
      have HT' : Hid (((ownP c) ⟨xo, xv, xf⟩ || (P.drop (k + 1)).any (ownP c)) = P.any (ownP c)) := by
        have := HT.out; rw [hd, List.any_cons] at this; exact this
      obtain ⟨fp, fc, rfl⟩ := hf.slice
      have HF := Lib.hid hf
      clear hf hd HT H hxk
      cases h1 : (ownP c) ⟨xo, .slice fp xf.length fc, xf⟩
      · have HE : Hid ((P.drop (k + 1)).any (ownP c) = P.any (ownP c)) := by have := HT'.out; rw [h1] at this; exact this
        have H1 := Lib.hid h1
        clear HT' h1
        go_wp2_with (first | (go_at_call 71; refine (ownClosure_any _ _ c _ xf bb (HF.out.below (by (repeat (first | exact Below.refl _ _ | assumption | refine nw_more ?_ _ _ | refine nw_alloc ?_ _ | refine nw_drew ?_ | refine nw_drewN ?_ _ | refine nw_set ?_ (by first | (simp; done) | (simp; omega) | omega) _)))) (by simp [go_sem, hbb]) (by simp [go_sem, hbb, hcc])).mono ?_; rw [H1.out]; (rintro e w' ⟨rfl, hb⟩; obtain ⟨n, es, rfl⟩ := below_more hb; clear hb)))
        go_roundg (P.length + 1 - k - 1)
        case measure => omega
        case rel => exact ⟨below_more (by (repeat (first | exact Below.refl _ _ | assumption | refine nw_more ?_ _ _ | refine nw_alloc ?_ _ | refine nw_drew ?_ | refine nw_drewN ?_ _ | refine nw_set ?_ (by first | (simp; done) | (simp; omega) | omega) _))), k + 1, by omega, by omega, HE.out, by go_num⟩
      · have HE : Hid (true = P.any (ownP c)) := by have := HT'.out; rw [h1] at this; exact this
        have H1 := Lib.hid h1
        clear HT' h1
        go_wp2_with (first | (go_at_call 71; refine (ownClosure_any _ _ c _ xf bb (HF.out.below (by (repeat (first | exact Below.refl _ _ | assumption | refine nw_more ?_ _ _ | refine nw_alloc ?_ _ | refine nw_drew ?_ | refine nw_drewN ?_ _ | refine nw_set ?_ (by first | (simp; done) | (simp; omega) | omega) _)))) (by simp [go_sem, hbb]) (by simp [go_sem, hbb, hcc])).mono ?_; rw [H1.out]; (rintro e w' ⟨rfl, hb⟩; obtain ⟨n, es, rfl⟩ := below_more hb; clear hb)))
        go_ret
        exact ⟨⟨k, rfl, by rw [← HE.out]; simp⟩, by (repeat (first | exact Below.refl _ _ | assumption | refine nw_more ?_ _ _ | refine nw_alloc ?_ _ | refine nw_drew ?_ | refine nw_drewN ?_ _ | refine nw_set ?_ (by first | (simp; done) | (simp; omega) | omega) _))⟩
    · have e : k = P.length := by omega
      have HE : Hid (false = P.any (ownP c)) := by have := HT.out; rw [e, List.drop_length] at this; exact this
      clear e HT H
      go_wp2
      go_ret
      exact ⟨⟨-1, rfl, by rw [← HE.out]; rfl⟩, by (repeat (first | exact Below.refl _ _ | assumption | refine nw_more ?_ _ _ | refine nw_alloc ?_ _ | refine nw_drew ?_ | refine nw_drewN ?_ _ | refine nw_set ?_ (by first | (simp; done) | (simp; omega) | omega) _))⟩

set_option maxHeartbeats 1000000 in
theorem idxFor_any (w : World) (v : Value) (P : List Wv) (bb : Nat) (c : Int) (hP : WvAt w v P) (hbb : Lt bb w.heap.size) (hcc : w.cell? ⟨bb, 0, none⟩ = some (.int .i64 c)) (HS : Hid (∀ x ∈ P, risesB x.f = true)):
    Calls Try.prog 85 #[v, .func (.func 69) #[] #[.pointer (some ⟨bb, 0, none⟩)]] w (SomeIdx w (P.any (forP c))) := by
  obtain ⟨p, cap, rfl, hl, ht⟩ := hP.at
  have H := Lib.hid ht
  clear hP ht
  go_enter Try.func85, Try.ntmps85
  go_wp2
  go_loopg [8] (P.length + 1) (fun g i wr => (∃ n es, wr = more w n es) ∧ ∃ k : Nat, k ≤ P.length ∧ g + k = P.length + 1 ∧ Hid ((P.drop k).any (forP c) = P.any (forP c)) ∧ i = .int .i64 k)
  case atStart => exact ⟨below_more (Below.refl _ _), 0, Nat.zero_le _, rfl, rfl, rfl⟩
  case round =>
    obtain ⟨⟨n, es, rfl⟩, k, hk, hg, HT, rfl⟩ := hrel
    obtain rfl : gk = P.length + 1 - k := by omega
    clear hg
    by_cases hlt : k < P.length
    · obtain ⟨b, off, x, rfl, hb, hc, hc1, hf, hd, hxk⟩ := H.out k hlt
      skip
      have HX := Lib.hid (List.mem_of_getElem? hxk)
      obtain ⟨xo, xv, xf⟩ := x
      dsimp only at hc hc1 hf
      have HT' : Hid (((forP c) ⟨xo, xv, xf⟩ || (P.drop (k + 1)).any (forP c)) = P.any (forP c)) := by
        have := HT.out; rw [hd, List.any_cons] at this; exact this
      obtain ⟨fp, fc, rfl⟩ := hf.slice
      have HF := Lib.hid hf
      clear hf hd HT H hxk
      cases h1 : (forP c) ⟨xo, .slice fp xf.length fc, xf⟩
      · have HE : Hid ((P.drop (k + 1)).any (forP c) = P.any (forP c)) := by have := HT'.out; rw [h1] at this; exact this
        have H1 := Lib.hid h1
        clear HT' h1
        go_wp2_with (first | (go_at_call 69; refine (forClosure_any _ _ c _ xf bb (HF.out.below (by (repeat (first | exact Below.refl _ _ | assumption | refine nw_more ?_ _ _ | refine nw_alloc ?_ _ | refine nw_drew ?_ | refine nw_drewN ?_ _ | refine nw_set ?_ (by first | (simp; done) | (simp; omega) | omega) _)))) (HS.out _ HX.out) (by simp [go_sem, hbb]) (by simp [go_sem, hbb, hcc])).mono ?_; rw [H1.out]; (rintro e w' ⟨rfl, hb⟩; obtain ⟨n, es, rfl⟩ := below_more hb; clear hb)))
        go_roundg (P.length + 1 - k - 1)
        case measure => omega
        case rel => exact ⟨below_more (by (repeat (first | exact Below.refl _ _ | assumption | refine nw_more ?_ _ _ | refine nw_alloc ?_ _ | refine nw_drew ?_ | refine nw_drewN ?_ _ | refine nw_set ?_ (by first | (simp; done) | (simp; omega) | omega) _))), k + 1, by omega, by omega, HE.out, by go_num⟩
      · have HE : Hid (true = P.any (forP c)) := by have := HT'.out; rw [h1] at this; exact this
        have H1 := Lib.hid h1
        clear HT' h1
        go_wp2_with (first | (go_at_call 69; refine (forClosure_any _ _ c _ xf bb (HF.out.below (by (repeat (first | exact Below.refl _ _ | assumption | refine nw_more ?_ _ _ | refine nw_alloc ?_ _ | refine nw_drew ?_ | refine nw_drewN ?_ _ | refine nw_set ?_ (by first | (simp; done) | (simp; omega) | omega) _)))) (HS.out _ HX.out) (by simp [go_sem, hbb]) (by simp [go_sem, hbb, hcc])).mono ?_; rw [H1.out]; (rintro e w' ⟨rfl, hb⟩; obtain ⟨n, es, rfl⟩ := below_more hb; clear hb)))
        go_ret
        exact ⟨⟨k, rfl, by rw [← HE.out]; simp⟩, by (repeat (first | exact Below.refl _ _ | assumption | refine nw_more ?_ _ _ | refine nw_alloc ?_ _ | refine nw_drew ?_ | refine nw_drewN ?_ _ | refine nw_set ?_ (by first | (simp; done) | (simp; omega) | omega) _))⟩
    · have e : k = P.length := by omega
      have HE : Hid (false = P.any (forP c)) := by have := HT.out; rw [e, List.drop_length] at this; exact this
      clear e HT H
      go_wp2
      go_ret
      exact ⟨⟨-1, rfl, by rw [← HE.out]; rfl⟩, by (repeat (first | exact Below.refl _ _ | assumption | refine nw_more ?_ _ _ | refine nw_alloc ?_ _ | refine nw_drew ?_ | refine nw_drewN ?_ _ | refine nw_set ?_ (by first | (simp; done) | (simp; omega) | omega) _))⟩
end Go.Proofs.Ythkpeddgcglpcaa
