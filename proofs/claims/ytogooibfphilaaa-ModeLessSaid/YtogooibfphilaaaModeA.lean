/- Contracts of package mode: which modes there are, which go together. No condition. -/
import Derived.Test.YtogooibfphilaaaRows
import Derived.Test.YtogooibfphilaaaArgs
import Derived.Test.YtogooibfphilaaaFacts
import Derived.WalkKit
import Derived.WalkSpells
import Derived.WalkLawsBesides
import Derived.IntWalk
namespace Go.Proofs.Ytogooibfphilaaa
open Go.RowKit

def modeB (m : Int) : Bool := decide (1 ≤ m) && decide (m ≤ 3)
/-- Of two modes: they go together. -/
def fitB (a b : Int) : Bool := decide (a + b ≤ 3)
theorem fit_swap (a b : Int) : fitB b a = fitB a b := by simp only [fitB, Int.add_comm]
theorem fit_less {a b d : Int} (h : fitB a b = true) (hd : d ≤ b) : fitB a d = true := by simp only [fitB, decide_eq_true_eq] at *; omega

theorem ret_two {a b : Bool} (h : a = b) : Ending.returned (.tuple #[.bool a, .int .i64 0]) = .returned (.tuple #[.bool b, .int .i64 0]) := by rw [h]

set_option maxHeartbeats 400000 in
theorem modeMayBe_any (m : Int) (w : World) :
    Calls Try.prog 27 #[.int .i64 m] w fun e w' => e = .returned (.bool (modeB m)) ∧ w = w' := by
  by_cases h : 1 ≤ m
  all_goals
    go_enter Try.func27, Try.ntmps27
    go_wp2
    go_ret
    exact ⟨ret_bool (by simp [modeB, h] <;> omega), rfl⟩

set_option maxHeartbeats 400000 in
theorem fit_yes (a b : Int) (w : World) (ha : modeB a = true) (hb : modeB b = true) :
    Calls Try.prog 18 #[.int .i64 a, .int .i64 b] w fun e w' => e = .returned (.tuple #[.bool (fitB a b), .int .i64 0]) ∧ w = w' := by
  have h1 : 1 ≤ a ∧ a ≤ 3 := by simpa [modeB] using ha
  have h2 : 1 ≤ b ∧ b ≤ 3 := by simpa [modeB] using hb
  obtain ⟨a1, a2⟩ := h1
  obtain ⟨b1, b2⟩ := h2
  go_enter Try.func18, Try.ntmps18
  go_wp2_with (first | (go_at_call 27; refine (modeMayBe_any _ _).mono ?_; rintro e w' ⟨rfl, rfl⟩))
  all_goals
    go_ret2
    exact ⟨ret_two (by rw [Bool.eq_iff_iff]; simp [fitB] <;> omega), rfl⟩
end Go.Proofs.Ytogooibfphilaaa
