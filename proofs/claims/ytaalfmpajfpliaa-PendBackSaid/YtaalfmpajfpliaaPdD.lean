/- Contracts: a copy, a return, a release. No condition. -/
import Derived.Test.YtaalfmpajfpliaaPdC
import Derived.Deep.DeepCutAuto
import Derived.Deep.CutBlock
namespace Go.Proofs.Ytaalfmpajfpliaa
open Go.RowKit

/-- A value, beside an error. -/
def pdTwo (u v : Value) (e : Int) : Value := .tuple #[.agg #[u, v], .int .i64 e]

set_option maxHeartbeats 1000000 in
theorem copied_any (w : World) (u v : Value) (l : List Wr) (ms : List Int) (hl : l.length ≤ 1000000) (hw : WsAt w u l) (hm : IntsAt w v ms) :
    Calls Try.prog 18 #[.agg #[u, v]] w fun e w' => ∃ u' v', e = .returned (.agg #[u', v']) ∧ OwnW w.heap.size w' u' l ∧ OwnN w.heap.size w' v' ms ∧ Below w.heap.size w w' := by
  have HW := Lib.hid hw
  have HM := Lib.hid hm
  obtain ⟨p, cap, rfl, hcap⟩ := hw.slice
  obtain ⟨q, qc, rfl, hqc⟩ := hm.cap
  have hmn := hm.1
  clear hw hm
  go_enter Try.func18, Try.ntmps18
  go_wp2_with fail
  refine (front_any _ _ _ l ms l.length ms.length (Nat.le_refl _) (Nat.le_refl _) hl (HW.out.below (by (repeat (first | exact Below.refl _ _ | assumption | refine nw_more ?_ _ _ | refine nw_alloc ?_ _ | refine nw_drew ?_ | refine nw_drewN ?_ _ | refine nw_set ?_ (by first | (simp; done) | (simp; omega) | omega) _)))) (HM.out.below (by (repeat (first | exact Below.refl _ _ | assumption | refine nw_more ?_ _ _ | refine nw_alloc ?_ _ | refine nw_drew ?_ | refine nw_drewN ?_ _ | refine nw_set ?_ (by first | (simp; done) | (simp; omega) | omega) _))))).mono ?_
  rintro e w' ⟨u', v', rfl, h1, h2, hb⟩
  rw [List.take_length] at h1 h2
  obtain ⟨p1, c1, rfl⟩ := OwnW.slice h1
  obtain ⟨p2, c2, rfl⟩ := OwnN.slice h2
  obtain ⟨n, es, rfl⟩ := below_more hb
  clear hb
  go_wp2
  refine bodyPost_ret (v := .agg #[.slice p1 l.length c1, .slice p2 ms.length c2]) (by simp [results, Try.results18, go_sem]) rfl ⟨_, _, rfl, ?_, ?_, ?_⟩
  · exact own_swap h1 (by simp) (by simp; omega)
  · exact own_swap h2 (by simp) (by simp; omega)
  · (repeat (first | exact Below.refl _ _ | assumption | refine nw_more ?_ _ _ | refine nw_alloc ?_ _ | refine nw_drew ?_ | refine nw_drewN ?_ _ | refine nw_set ?_ (by first | (simp; done) | (simp; omega) | omega) _))

set_option maxHeartbeats 1000000 in
/-- Release of the mark i. -/
theorem release_ok (w : World) (u v : Value) (l : List Wr) (ms : List Int) (i : Nat) (hn : i < ms.length) (hok : pOk l ms = true) (hw : WsAt w u l) (hm : IntsAt w v ms) :
    Calls Try.prog 10 #[.agg #[u, v], .int .i64 i] w fun e w' => ∃ u' v', e = .returned (pdTwo u' v' 0) ∧ OwnW w.heap.size w' u' l ∧ OwnN w.heap.size w' v' (ms.take i) ∧ Below w.heap.size w w' := by
  have HW := Lib.hid hw
  have HM := Lib.hid hm
  have hl := (pOk_parts hok).1
  have hl6 := (pOk_parts hok).2.1
  have HOK := Lib.hid hok
  have HN : Hid ((decide (0 ≤ (i : Int)) && decide ((i : Int) < (ms.length : Int))) = true) := Lib.hid (by simp; omega)
  obtain ⟨p, cap, rfl, hcap⟩ := hw.slice
  obtain ⟨q, qc, rfl, hqc⟩ := hm.cap
  clear hw hm hok
  go_enter Try.func10, Try.ntmps10
  go_wp2_with fail
  refine (mayBe_ok _ _ _ l ms (HW.out.below (by (repeat (first | exact Below.refl _ _ | assumption | refine nw_more ?_ _ _ | refine nw_alloc ?_ _ | refine nw_drew ?_ | refine nw_drewN ?_ _ | refine nw_set ?_ (by first | (simp; done) | (simp; omega) | omega) _)))) (HM.out.below (by (repeat (first | exact Below.refl _ _ | assumption | refine nw_more ?_ _ _ | refine nw_alloc ?_ _ | refine nw_drew ?_ | refine nw_drewN ?_ _ | refine nw_set ?_ (by first | (simp; done) | (simp; omega) | omega) _)))) HOK.out).mono ?_
  (rintro e w' ⟨rfl, hb⟩; obtain ⟨n, es, rfl⟩ := below_more hb; clear hb)
  go_wp2_with fail
  refine (isMark_any _ _ _ _ _ _ (by omega)).mono ?_
  rw [HN.out]
  (rintro e w' ⟨rfl, hb⟩; obtain ⟨n, es, rfl⟩ := below_more hb; clear hb)
  go_wp2_with fail
  refine (front_any _ _ _ l ms l.length i (Nat.le_refl _) (by omega) (by omega) (HW.out.below (by (repeat (first | exact Below.refl _ _ | assumption | refine nw_more ?_ _ _ | refine nw_alloc ?_ _ | refine nw_drew ?_ | refine nw_drewN ?_ _ | refine nw_set ?_ (by first | (simp; done) | (simp; omega) | omega) _)))) (HM.out.below (by (repeat (first | exact Below.refl _ _ | assumption | refine nw_more ?_ _ _ | refine nw_alloc ?_ _ | refine nw_drew ?_ | refine nw_drewN ?_ _ | refine nw_set ?_ (by first | (simp; done) | (simp; omega) | omega) _))))).mono ?_
  rintro e w' ⟨u', v', rfl, h1, h2, hb⟩
  rw [List.take_length] at h1
  obtain ⟨p1, c1, rfl⟩ := OwnW.slice h1
  obtain ⟨p2, c2, rfl⟩ := OwnN.slice h2
  rw [show (ms.take i).length = i by rw [List.length_take]; omega] at h2 ⊢
  obtain ⟨m, es, rfl⟩ := below_more hb
  clear hb
  go_wp2
  refine bodyPost_ret (v := pdTwo (.slice p1 l.length c1) (.slice p2 i c2) 0) (by simp [pdTwo, results, Try.results10, go_sem]) rfl ⟨_, _, rfl, ?_, ?_, ?_⟩
  · exact own_swap h1 (by simp) (by simp; omega)
  · exact own_swap h2 (by simp) (by simp; omega)
  · (repeat (first | exact Below.refl _ _ | assumption | refine nw_more ?_ _ _ | refine nw_alloc ?_ _ | refine nw_drew ?_ | refine nw_drewN ?_ _ | refine nw_set ?_ (by first | (simp; done) | (simp; omega) | omega) _))

set_option maxHeartbeats 4000000 in
/-- Return to the mark i, which is a. -/
theorem return_ok (w : World) (u v : Value) (l : List Wr) (ms : List Int) (i a : Nat) (hn : ms[i]? = some (a : Int)) (ha : a ≤ l.length) (hok : pOk l ms = true) (hw : WsAt w u l) (hm : IntsAt w v ms) :
    Calls Try.prog 12 #[.agg #[u, v], .int .i64 i] w fun e w' => ∃ u' v', e = .returned (pdTwo u' v' 0) ∧ OwnW w.heap.size w' u' (l.take a) ∧ OwnN w.heap.size w' v' (ms.take (i + 1)) ∧ Below w.heap.size w w' := by
  have hnl : i < ms.length := (List.getElem?_eq_some_iff.1 hn).1
  obtain ⟨q, qc, rfl, hms, hat⟩ := hm.at
  obtain ⟨b, off, x, rfl, hb, hc, -, hx⟩ := hat i hnl
  obtain rfl : x = a := by rw [hn] at hx; exact (Option.some.inj hx).symm
  have HW := Lib.hid hw
  have HM := Lib.hid hm
  have hl := (pOk_parts hok).1
  have hl6 := (pOk_parts hok).2.1
  have HOK := Lib.hid hok
  have HN : Hid ((decide (0 ≤ (i : Int)) && decide ((i : Int) < (ms.length : Int))) = true) := Lib.hid (by simp; omega)
  obtain ⟨p, cap, rfl, hcap⟩ := hw.slice
  have k1 : (i : Int) < (ms.length : Int) := by omega
  have HWR : Hid (IntKind.i64.wrap ((i : Int) + 1) = ((i + 1 : Nat) : Int)) := Lib.hid ((IntWalk.i64_in _ (by omega)).trans (by omega))
  have hmin : min (i + 1) ms.length = i + 1 := by omega
  clear hw hm hok hat hn hx
  go_enter Try.func12, Try.ntmps12
  go_upto_region 5 with (first | (go_at_call 17; refine (mayBe_ok _ _ _ l ms (HW.out.below (by (repeat (first | exact Below.refl _ _ | assumption | refine nw_more ?_ _ _ | refine nw_alloc ?_ _ | refine nw_drew ?_ | refine nw_drewN ?_ _ | refine nw_set ?_ (by first | (simp; done) | (simp; omega) | omega) _)))) (HM.out.below (by (repeat (first | exact Below.refl _ _ | assumption | refine nw_more ?_ _ _ | refine nw_alloc ?_ _ | refine nw_drew ?_ | refine nw_drewN ?_ _ | refine nw_set ?_ (by first | (simp; done) | (simp; omega) | omega) _)))) HOK.out).mono ?_; (rintro e w' ⟨rfl, hb⟩; obtain ⟨n, es, rfl⟩ := below_more hb; clear hb)) | (go_at_call 21; refine (isMark_any _ _ _ _ _ _ (by omega)).mono ?_; rw [HN.out]; (rintro e w' ⟨rfl, hb⟩; obtain ⟨n, es, rfl⟩ := below_more hb; clear hb)))
  go_region_held3 (fun w9 => w9.cell? ⟨w.heap.size, 0, none⟩ = some (.slice p l.length cap) ∧ w9.cell? ⟨w.heap.size, 1, none⟩ = some (.slice (some ⟨b, off, none⟩) ms.length qc) ∧ w9.cell? ⟨b, off + i, none⟩ = some (.int .i64 a)) (simp [go_sem, *]) (first | (go_at_call 22; refine (front_of _ _ _ l ms a (i + 1) _ _ rfl HWR.out ha (by omega) (by omega) (HW.out.below (by (repeat (first | exact Below.refl _ _ | assumption | refine nw_more ?_ _ _ | refine nw_alloc ?_ _ | refine nw_drew ?_ | refine nw_drewN ?_ _ | refine nw_set ?_ (by first | (simp; done) | (simp; omega) | omega) _)))) (HM.out.below (by (repeat (first | exact Below.refl _ _ | assumption | refine nw_more ?_ _ _ | refine nw_alloc ?_ _ | refine nw_drew ?_ | refine nw_drewN ?_ _ | refine nw_set ?_ (by first | (simp; done) | (simp; omega) | omega) _))))).mono ?_; rintro e w' ⟨u', v', rfl, h1, h2, hb⟩; obtain ⟨p1, c1, rfl⟩ := OwnW.slice h1; obtain ⟨p2, c2, rfl⟩ := OwnN.slice h2; obtain ⟨m, es, rfl⟩ := below_more hb; clear hb))
  all_goals
    rw [show (l.take a).length = a by rw [List.length_take]; omega] at h1
    rw [show (ms.take (i + 1)).length = i + 1 by rw [List.length_take]; omega] at h2
    go_wp2
    refine bodyPost_ret (v := pdTwo (.slice p1 a c1) (.slice p2 (i + 1) c2) 0) (by simp [pdTwo, results, Try.results12, go_sem]) rfl ⟨_, _, rfl, ?_, ?_, ?_⟩
    · exact own_swap h1 (by simp) (by simp; omega)
    · exact own_swap h2 (by simp) (by simp; omega)
    · (repeat (first | exact Below.refl _ _ | assumption | refine nw_more ?_ _ _ | refine nw_alloc ?_ _ | refine nw_drew ?_ | refine nw_drewN ?_ _ | refine nw_set ?_ (by first | (simp; done) | (simp; omega) | omega) _))
end Go.Proofs.Ytaalfmpajfpliaa
