/- Contracts of the functions of package key and of the page's own layer 1, over strings and ranges by value. -/
import Derived.Test.YtogooibfphilaaaRows
import Derived.Test.YtogooibfphilaaaOrd
import Derived.Test.YtogooibfphilaaaFacts
import Derived.WalkKit
import Derived.WalkSpells
import Derived.WalkLawsBesides
import Derived.Deep.QuietTactic
import Derived.BigQuiet
namespace Go.Proofs.Ytogooibfphilaaa
open Go.RowKit

def endB (lo hi : ByteArray) (top : Bool) : Bool := match top with
  | true => hi.toList.isEmpty
  | false => !lessB hi lo
def boundB (s : ByteArray) : Bool := decide (s.size ≤ 13)
def rangeB (lo hi : ByteArray) (top : Bool) : Bool := boundB lo && boundB hi && endB lo hi top
def keyB (s : ByteArray) : Bool := decide (1 ≤ s.size) && decide (s.size ≤ 12)

set_option maxHeartbeats 400000 in
theorem longestBound_any (w : World) :
    Calls Try.prog 30 #[] w fun e w' => e = .returned (.int .i64 13) ∧ w = w' := by
  go_enter Try.func30, Try.ntmps30
  go_wp2
  go_ret
  exact ⟨rfl, rfl⟩

set_option maxHeartbeats 400000 in
theorem isBound_any (s : ByteArray) (w : World) (hs : s.size ≤ maxLen) :
    Calls Try.prog 28 #[.string s] w fun e w' => e = .returned (.bool (boundB s)) ∧ w = w' := by
  unfold maxLen at hs
  go_enter Try.func28, Try.ntmps28
  go_wp2_with (first | (go_at_call 30; refine (longestBound_any _).mono ?_; rintro e w' ⟨rfl, rfl⟩))
  go_ret
  exact ⟨ret_bool (by rw [boundB, Bool.eq_iff_iff]; simp; omega), rfl⟩

set_option maxHeartbeats 400000 in
theorem endMayBe_any (lo hi : ByteArray) (top : Bool) (w : World) :
    Calls Try.prog 29 #[.agg #[.string lo, .string hi, .bool top]] w fun e w' => e = .returned (.bool (endB lo hi top)) ∧ Below w.heap.size w w' := by
  cases top
  all_goals
    go_enter Try.func29, Try.ntmps29
    go_wp2
    go_ret
    exact ⟨rfl, (Below.refl _ _).alloc (Nat.le_refl _) _⟩

set_option maxHeartbeats 400000 in
theorem mayBe_any (lo hi : ByteArray) (top : Bool) (w : World) (hl : lo.size ≤ maxLen) (hh : hi.size ≤ maxLen) :
    Calls Try.prog 22 #[.agg #[.string lo, .string hi, .bool top]] w fun e w' => e = .returned (.bool (rangeB lo hi top)) ∧ Below w.heap.size w w' := by
  cases h1 : boundB lo
  all_goals cases h2 : boundB hi
  all_goals
    go_enter Try.func22, Try.ntmps22
    go_wp2_with (first | (go_at_call 28; refine (isBound_any _ _ (by assumption)).mono ?_; rintro e w' ⟨rfl, rfl⟩) | (go_at_call 29; refine (endMayBe_any _ _ _ _).mono ?_; (rintro e w' ⟨rfl, hb⟩; obtain ⟨n, es, rfl⟩ := below_more hb; clear hb)))
    go_ret
    refine ⟨ret_bool (by simp [rangeB, h1, h2]), ?_⟩
    (repeat (first | exact Below.refl _ _ | assumption | refine nw_more ?_ _ _ | refine nw_alloc ?_ _ | refine nw_drew ?_ | refine nw_drewN ?_ _ | refine nw_set ?_ (by first | (simp; done) | (simp; omega) | omega) _))
end Go.Proofs.Ytogooibfphilaaa
