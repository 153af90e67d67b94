/- Contracts, three: meet. -/
import Derived.Test.YtogooibfphilaaaKeyB
namespace Go.Proofs.Ytogooibfphilaaa
open Go.RowKit

set_option maxHeartbeats 1000000 in
theorem meet_no (alo ahi blo bhi : ByteArray) (atop btop : Bool) (w : World) (hab : aboveB ahi bhi atop btop = false) :
    Calls Try.prog 23 #[.agg #[.string alo, .string ahi, .bool atop], .agg #[.string blo, .string bhi, .bool btop]] w fun e w' => e = .returned (.agg #[.string (maxB alo blo), .string ahi, .bool atop]) ∧ Below w.heap.size w w' := by
  go_enter Try.func23, Try.ntmps23
  go_wp2_with (first | (go_at_call 24; refine (endsAbove_any _ _ _ _ _ _ _).mono ?_; (rintro e w' ⟨rfl, hb⟩; obtain ⟨n, es, rfl⟩ := below_more hb; clear hb)))
  refine bodyPost_ret (v := .agg #[.string (maxB alo blo), .string ahi, .bool atop]) (by simp [results, Try.results23, go_sem]) rfl ⟨rfl, ?_⟩
  (repeat (first | exact Below.refl _ _ | assumption | refine nw_more ?_ _ _ | refine nw_alloc ?_ _ | refine nw_drew ?_ | refine nw_drewN ?_ _ | refine nw_set ?_ (by first | (simp; done) | (simp; omega) | omega) _))
set_option maxHeartbeats 1000000 in
theorem meet_yes (alo ahi blo bhi : ByteArray) (atop btop : Bool) (w : World) (hab : aboveB ahi bhi atop btop = true) :
    Calls Try.prog 23 #[.agg #[.string alo, .string ahi, .bool atop], .agg #[.string blo, .string bhi, .bool btop]] w fun e w' => e = .returned (.agg #[.string (maxB alo blo), .string bhi, .bool btop]) ∧ Below w.heap.size w w' := by
  go_enter Try.func23, Try.ntmps23
  go_wp2_with (first | (go_at_call 24; refine (endsAbove_any _ _ _ _ _ _ _).mono ?_; (rintro e w' ⟨rfl, hb⟩; obtain ⟨n, es, rfl⟩ := below_more hb; clear hb)))
  refine bodyPost_ret (v := .agg #[.string (maxB alo blo), .string bhi, .bool btop]) (by simp [results, Try.results23, go_sem]) rfl ⟨rfl, ?_⟩
  (repeat (first | exact Below.refl _ _ | assumption | refine nw_more ?_ _ _ | refine nw_alloc ?_ _ | refine nw_drew ?_ | refine nw_drewN ?_ _ | refine nw_set ?_ (by first | (simp; done) | (simp; omega) | omega) _))
end Go.Proofs.Ytogooibfphilaaa
