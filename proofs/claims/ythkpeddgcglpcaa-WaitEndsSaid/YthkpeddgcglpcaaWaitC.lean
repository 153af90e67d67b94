/- Contracts of package wait, three: who is an owner, followed. -/
import Derived.Test.YthkpeddgcglpcaaWaitB
import Derived.OwnWalk
import Derived.Deep.RegionHeld3
import Derived.Deep.LoopGhost
namespace Go.Proofs.Ythkpeddgcglpcaa
open Go.RowKit

theorem any_own (P : List Wv) (c : Int) : P.any (ownP c) = isOwn (P.map Wv.pl) c := by
  unfold isOwn; rw [List.any_map]; rfl
theorem any_for (P : List Wv) (c : Int) : P.any (forP c) = (P.map Wv.pl).any fun x => has x.2 c := by
  rw [List.any_map]; rfl

set_option maxHeartbeats 400000 in
theorem containsOwn_any (w : World) (v : Value) (P : List Wv) (bb : Nat) (c : Int) (hP : WvAt w v P) (hbb : Lt bb w.heap.size) (hcc : w.cell? ⟨bb, 0, none⟩ = some (.int .i64 c)) :
    Calls Try.prog 68 #[v, .func (.func 71) #[] #[.pointer (some ⟨bb, 0, none⟩)]] w fun e w' => e = .returned (.bool (isOwn (P.map Wv.pl) c)) ∧ Below w.heap.size w w' := by
  rw [← any_own]
  have HI := Lib.hid (idxOwn_any w v P bb c hP hbb hcc)
  generalize P.any (ownP c) = q at HI ⊢
  clear hP hbb hcc
  go_enter Try.func68, Try.ntmps68
  go_wp2_with (first | (go_at_call 85; refine HI.out.mono ?_; rintro e w' ⟨⟨k, rfl, hk⟩, hb⟩; have HK := Lib.hid hk; clear hk; obtain ⟨n, es, rfl⟩ := below_more hb; clear hb))
  go_ret
  exact ⟨ret_bool HK.out, by (repeat (first | exact Below.refl _ _ | assumption | refine nw_more ?_ _ _ | refine nw_alloc ?_ _ | refine nw_drew ?_ | refine nw_drewN ?_ _ | refine nw_set ?_ (by first | (simp; done) | (simp; omega) | omega) _))⟩

set_option maxHeartbeats 400000 in
theorem containsFor_any (w : World) (v : Value) (P : List Wv) (bb : Nat) (c : Int) (hP : WvAt w v P) (hs : ∀ x ∈ P, risesB x.f = true) (hbb : Lt bb w.heap.size) (hcc : w.cell? ⟨bb, 0, none⟩ = some (.int .i64 c)) :
    Calls Try.prog 68 #[v, .func (.func 69) #[] #[.pointer (some ⟨bb, 0, none⟩)]] w fun e w' => e = .returned (.bool ((P.map Wv.pl).any fun x => has x.2 c)) ∧ Below w.heap.size w w' := by
  rw [← any_for]
  have HI := Lib.hid (idxFor_any w v P bb c hP hbb hcc (Lib.hid hs))
  generalize P.any (forP c) = q at HI ⊢
  clear hP hbb hcc hs
  go_enter Try.func68, Try.ntmps68
  go_wp2_with (first | (go_at_call 85; refine HI.out.mono ?_; rintro e w' ⟨⟨k, rfl, hk⟩, hb⟩; have HK := Lib.hid hk; clear hk; obtain ⟨n, es, rfl⟩ := below_more hb; clear hb))
  go_ret
  exact ⟨ret_bool HK.out, by (repeat (first | exact Below.refl _ _ | assumption | refine nw_more ?_ _ _ | refine nw_alloc ?_ _ | refine nw_drew ?_ | refine nw_drewN ?_ _ | refine nw_set ?_ (by first | (simp; done) | (simp; omega) | omega) _))⟩

set_option maxHeartbeats 400000 in
theorem isOwner_any (w : World) (v : Value) (P : List Wv) (c : Int) (h : WvAt w v P) :
    Calls Try.prog 59 #[v, .int .i64 c] w fun e w' => e = .returned (.bool (isOwn (P.map Wv.pl) c)) ∧ Below w.heap.size w w' := by
  have HW := Lib.hid h
  clear h
  go_enter Try.func59, Try.ntmps59
  go_wp2_with (first | (go_at_call 68; refine (containsOwn_any _ _ P _ c (HW.out.below (by (repeat (first | exact Below.refl _ _ | assumption | refine nw_more ?_ _ _ | refine nw_alloc ?_ _ | refine nw_drew ?_ | refine nw_drewN ?_ _ | refine nw_set ?_ (by first | (simp; done) | (simp; omega) | omega) _)))) (by simp [go_sem]) (by simp [go_sem])).mono ?_; (rintro e w' ⟨rfl, hb⟩; obtain ⟨n, es, rfl⟩ := below_more hb; clear hb)))
  go_ret
  exact ⟨rfl, by (repeat (first | exact Below.refl _ _ | assumption | refine nw_more ?_ _ _ | refine nw_alloc ?_ _ | refine nw_drew ?_ | refine nw_drewN ?_ _ | refine nw_set ?_ (by first | (simp; done) | (simp; omega) | omega) _))⟩
end Go.Proofs.Ythkpeddgcglpcaa
