/- Contracts: keys, values, versions, what a chain may be. No condition. -/
import Derived.Test.YtkjejmikcgjnaaaRows
import Derived.Test.YtkjejmikcgjnaaaCPlain
import Derived.Test.YtkjejmikcgjnaaaWQuiet
import Derived.WalkKit
import Derived.WalkSpells
import Derived.WalkLawsBesides
import Derived.IntWalk
import Derived.Deep.LoopGhost
import Derived.Lib.Strings
namespace Go.Proofs.Ytkjejmikcgjnaaa
open Go.RowKit

@[go_sem] theorem errE_true : errE true = 0 := rfl
@[go_sem] theorem errE_false : errE false = 1 := rfl
theorem size_zero {s : ByteArray} (h : s.size = 0) : s = E0 := by
  have : s.data.toList = [] := List.length_eq_zero_iff.1 h
  apply ByteArray.ext
  exact Array.toList_inj.1 this
theorem list_ne {s : ByteArray} (h0 : ¬ s.size = 0) : (s.toList == []) = false := by
  rw [Lib.toList_data]
  cases e : s.data.toList with
  | nil => exact absurd (congrArg List.length e) h0
  | cons a r => rfl
theorem num8_any (n : Int) (w : World) :
    Calls Try.prog 9 #[.int .i64 n] w fun e w' => e = .returned (.int .i64 n) ∧ w = w' := by
  go_enter Try.func9, Try.ntmps9
  go_wp2
  go_ret
  exact ⟨rfl, rfl⟩
theorem mostCommit_any (w : World) :
    Calls Try.prog 32 #[] w fun e w' => e = .returned (.int .i64 1073741824) ∧ w = w' := by
  go_enter Try.func32, Try.ntmps32
  go_wp2
  go_ret
  exact ⟨rfl, rfl⟩
set_option maxHeartbeats 400000 in
theorem key_any (s : ByteArray) (w : World) (hs : s.size ≤ 140737488355328) :
    Calls Try.prog 28 #[.string s] w fun e w' => e = .returned (.int .i64 (errE (kB s))) ∧ w = w' := by
  by_cases h0 : s.size = 0
  · obtain rfl := size_zero h0
    unfold E0
    go_enter Try.func28, Try.ntmps28
    go_wp2
    go_ret
    exact ⟨rfl, rfl⟩
  · have hne := list_ne h0
    by_cases h12 : s.size ≤ 12
    · go_enter Try.func28, Try.ntmps28
      go_wp2
      go_ret
      exact ⟨ret_int (by rw [kB, decide_eq_true (by omega), decide_eq_true h12]; rfl), rfl⟩
    · go_enter Try.func28, Try.ntmps28
      go_wp2
      go_ret
      exact ⟨ret_int (by rw [kB, decide_eq_true (by omega), decide_eq_false h12]; rfl), rfl⟩
set_option maxHeartbeats 400000 in
theorem value_any (s : ByteArray) (w : World) (hs : s.size ≤ 140737488355328) :
    Calls Try.prog 34 #[.string s] w fun e w' => e = .returned (.int .i64 (errE (valB s))) ∧ w = w' := by
  by_cases h : s.size ≤ 20
  all_goals
    go_enter Try.func34, Try.ntmps34
    go_wp2
    go_ret
    exact ⟨ret_int (by simp [h, errE, valB]), rfl⟩
set_option maxHeartbeats 400000 in
theorem between_any (n low high : Int) (w : World) :
    Calls Try.prog 26 #[.int .i64 n, .int .i64 low, .int .i64 high] w fun e w' => e = .returned (.bool (decide (low ≤ n) && decide (n ≤ high))) ∧ w = w' := by
  by_cases h : low ≤ n
  all_goals
    go_enter Try.func26, Try.ntmps26
    go_wp2
    go_ret
    exact ⟨ret_bool (by simp [h] <;> omega), rfl⟩
set_option maxHeartbeats 400000 in
theorem rkey_any (s : ByteArray) (w : World) (hs : s.size ≤ 140737488355328) :
    Calls Try.prog 19 #[.string s] w fun e w' => e = .returned (.bool (kB s)) ∧ w = w' := by
  go_enter Try.func19, Try.ntmps19
  go_wp2_with (first | (go_at_call 26; refine (between_any _ _ _ _).mono ?_; rintro e w' ⟨rfl, rfl⟩))
  go_ret
  exact ⟨ret_bool (by rw [kB, Bool.eq_iff_iff]; simp; omega), rfl⟩
set_option maxHeartbeats 400000 in
theorem rvalue_any (s : ByteArray) (w : World) (hs : s.size ≤ 140737488355328) :
    Calls Try.prog 27 #[.string s] w fun e w' => e = .returned (.bool (valB s)) ∧ w = w' := by
  go_enter Try.func27, Try.ntmps27
  go_wp2
  go_ret
  exact ⟨ret_bool (by rw [valB, Bool.eq_iff_iff]; simp; omega), rfl⟩

set_option maxHeartbeats 800000 in
theorem versionMayBe_any (c : Int) (s : ByteArray) (g : Bool) (w : World) (hs : s.size ≤ 140737488355328) :
    Calls Try.prog 33 #[.agg #[.int .i64 c, .string s, .bool g]] w fun e w' => e = .returned (.bool (vOk ⟨c, s, g⟩)) ∧ Below w.heap.size w w' := by
  by_cases hc : 1 ≤ c
  · cases hv : valB s
    · have HV := Lib.hid hv
      go_enter Try.func33, Try.ntmps33
      go_wp2_with (first | (go_at_call 34; refine (value_any _ _ hs).mono ?_; rw [HV.out]; rintro e w' ⟨rfl, rfl⟩))
      go_ret
      exact ⟨ret_bool (by simp [vOk, hv]), by (repeat (first | exact Below.refl _ _ | assumption | refine nw_more ?_ _ _ | refine nw_alloc ?_ _ | refine nw_drew ?_ | refine nw_drewN ?_ _ | refine nw_set ?_ (by first | (simp; done) | (simp; omega) | omega) _))⟩
    · have HV := Lib.hid hv
      cases g
      · go_enter Try.func33, Try.ntmps33
        go_wp2_with (first | (go_at_call 34; refine (value_any _ _ hs).mono ?_; rw [HV.out]; rintro e w' ⟨rfl, rfl⟩))
        go_ret
        exact ⟨ret_bool (by simp [vOk, hv, hc]), by (repeat (first | exact Below.refl _ _ | assumption | refine nw_more ?_ _ _ | refine nw_alloc ?_ _ | refine nw_drew ?_ | refine nw_drewN ?_ _ | refine nw_set ?_ (by first | (simp; done) | (simp; omega) | omega) _))⟩
      · by_cases h0 : s.size = 0
        · obtain rfl := size_zero h0
          unfold E0 at *
          go_enter Try.func33, Try.ntmps33
          go_wp2_with (first | (go_at_call 34; refine (value_any _ _ hs).mono ?_; rw [HV.out]; rintro e w' ⟨rfl, rfl⟩))
          go_ret
          exact ⟨ret_bool (by simp [vOk, hv, hc]; rfl), by (repeat (first | exact Below.refl _ _ | assumption | refine nw_more ?_ _ _ | refine nw_alloc ?_ _ | refine nw_drew ?_ | refine nw_drewN ?_ _ | refine nw_set ?_ (by first | (simp; done) | (simp; omega) | omega) _))⟩
        · have hne := list_ne h0
          go_enter Try.func33, Try.ntmps33
          go_wp2_with (first | (go_at_call 34; refine (value_any _ _ hs).mono ?_; rw [HV.out]; rintro e w' ⟨rfl, rfl⟩))
          go_ret
          exact ⟨ret_bool (by simp [vOk, hv, hc, h0]), by (repeat (first | exact Below.refl _ _ | assumption | refine nw_more ?_ _ _ | refine nw_alloc ?_ _ | refine nw_drew ?_ | refine nw_drewN ?_ _ | refine nw_set ?_ (by first | (simp; done) | (simp; omega) | omega) _))⟩
  · go_enter Try.func33, Try.ntmps33
    go_wp2
    go_ret
    exact ⟨ret_bool (by unfold vOk; rw [decide_eq_false (by dsimp only; omega)]; rfl), by (repeat (first | exact Below.refl _ _ | assumption | refine nw_more ?_ _ _ | refine nw_alloc ?_ _ | refine nw_drew ?_ | refine nw_drewN ?_ _ | refine nw_set ?_ (by first | (simp; done) | (simp; omega) | omega) _))⟩

set_option maxHeartbeats 800000 in
theorem rVersion_any (c : Int) (s : ByteArray) (g : Bool) (w : World) (hs : s.size ≤ 140737488355328) :
    Calls Try.prog 18 #[.agg #[.int .i64 c, .string s, .bool g]] w fun e w' => e = .returned (.bool (decide (c ≤ 1073741824) && vOk ⟨c, s, g⟩)) ∧ Below w.heap.size w w' := by
  cases hb : decide (1 ≤ c) && decide (c ≤ 1073741824)
  · have HB := Lib.hid hb
    go_enter Try.func18, Try.ntmps18
    go_wp2_with (first | (go_at_call 26; refine (between_any _ _ _ _).mono ?_; rw [HB.out]; rintro e w' ⟨rfl, rfl⟩))
    go_ret
    exact ⟨ret_bool (by simp only [Bool.and_eq_false_iff, decide_eq_false_iff_not] at hb; rcases hb with hb | hb <;> simp [vOk, hb]), by (repeat (first | exact Below.refl _ _ | assumption | refine nw_more ?_ _ _ | refine nw_alloc ?_ _ | refine nw_drew ?_ | refine nw_drewN ?_ _ | refine nw_set ?_ (by first | (simp; done) | (simp; omega) | omega) _))⟩
  · have HB := Lib.hid hb
    simp only [Bool.and_eq_true, decide_eq_true_eq] at hb
    obtain ⟨hc, hc2⟩ := hb
    have HC := Lib.hid hc
    have HC2 := Lib.hid hc2
    clear hc hc2
    cases hv : valB s
    · have HV := Lib.hid hv
      go_enter Try.func18, Try.ntmps18
      go_wp2_with (first | (go_at_call 26; refine (between_any _ _ _ _).mono ?_; rw [HB.out]; rintro e w' ⟨rfl, rfl⟩) | (go_at_call 27; refine (rvalue_any _ _ hs).mono ?_; rw [HV.out]; rintro e w' ⟨rfl, rfl⟩))
      go_ret
      exact ⟨ret_bool (by simp [vOk, hv]), by (repeat (first | exact Below.refl _ _ | assumption | refine nw_more ?_ _ _ | refine nw_alloc ?_ _ | refine nw_drew ?_ | refine nw_drewN ?_ _ | refine nw_set ?_ (by first | (simp; done) | (simp; omega) | omega) _))⟩
    · have HV := Lib.hid hv
      cases g
      · go_enter Try.func18, Try.ntmps18
        go_wp2_with (first | (go_at_call 26; refine (between_any _ _ _ _).mono ?_; rw [HB.out]; rintro e w' ⟨rfl, rfl⟩) | (go_at_call 27; refine (rvalue_any _ _ hs).mono ?_; rw [HV.out]; rintro e w' ⟨rfl, rfl⟩))
        go_ret
        exact ⟨ret_bool (by simp [vOk, hv, HC.out, HC2.out]), by (repeat (first | exact Below.refl _ _ | assumption | refine nw_more ?_ _ _ | refine nw_alloc ?_ _ | refine nw_drew ?_ | refine nw_drewN ?_ _ | refine nw_set ?_ (by first | (simp; done) | (simp; omega) | omega) _))⟩
      · by_cases h0 : s.size = 0
        · obtain rfl := size_zero h0
          unfold E0 at *
          go_enter Try.func18, Try.ntmps18
          go_wp2_with (first | (go_at_call 26; refine (between_any _ _ _ _).mono ?_; rw [HB.out]; rintro e w' ⟨rfl, rfl⟩) | (go_at_call 27; refine (rvalue_any _ _ hs).mono ?_; rw [HV.out]; rintro e w' ⟨rfl, rfl⟩))
          go_ret
          exact ⟨ret_bool (by simp [vOk, hv, HC.out, HC2.out]; rfl), by (repeat (first | exact Below.refl _ _ | assumption | refine nw_more ?_ _ _ | refine nw_alloc ?_ _ | refine nw_drew ?_ | refine nw_drewN ?_ _ | refine nw_set ?_ (by first | (simp; done) | (simp; omega) | omega) _))⟩
        · have hne := list_ne h0
          go_enter Try.func18, Try.ntmps18
          go_wp2_with (first | (go_at_call 26; refine (between_any _ _ _ _).mono ?_; rw [HB.out]; rintro e w' ⟨rfl, rfl⟩) | (go_at_call 27; refine (rvalue_any _ _ hs).mono ?_; rw [HV.out]; rintro e w' ⟨rfl, rfl⟩))
          go_ret
          exact ⟨ret_bool (by simp [vOk, hv, HC.out, HC2.out, h0]), by (repeat (first | exact Below.refl _ _ | assumption | refine nw_more ?_ _ _ | refine nw_alloc ?_ _ | refine nw_drew ?_ | refine nw_drewN ?_ _ | refine nw_set ?_ (by first | (simp; done) | (simp; omega) | omega) _))⟩
end Go.Proofs.Ytkjejmikcgjnaaa
