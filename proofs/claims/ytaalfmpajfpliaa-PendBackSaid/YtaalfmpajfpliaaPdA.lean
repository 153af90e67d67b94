/- Contracts: keys, values, writes. No condition. -/
import Derived.Test.YtaalfmpajfpliaaRows
import Derived.Test.YtaalfmpajfpliaaPdPlain
import Derived.Test.YtaalfmpajfpliaaWQuiet
import Derived.WalkKit
import Derived.WalkSpells
import Derived.WalkLawsBesides
import Derived.IntWalk
import Derived.Deep.LoopGhost
import Derived.Lib.Strings
namespace Go.Proofs.Ytaalfmpajfpliaa
open Go.RowKit

@[go_sem] theorem errE_true : errE true = 0 := rfl
@[go_sem] theorem errE_false : errE false = 1 := rfl
theorem size_zero {s : ByteArray} (h : s.size = 0) : s = E0 := by
  have : s.data.toList = [] := List.length_eq_zero_iff.1 h
  apply ByteArray.ext
  exact Array.toList_inj.1 this
theorem list_ne {s : ByteArray} (h0 : ¬ s.size = 0) : (s.toList == []) = false := by
  rw [Lib.toList_data]
  cases e : s.data.toList with
  | nil => exact absurd (congrArg List.length e) h0
  | cons a r => rfl
theorem num10_any (n : Int) (w : World) :
    Calls Try.prog 7 #[.int .i64 n] w fun e w' => e = .returned (.int .i64 n) ∧ w = w' := by
  go_enter Try.func7, Try.ntmps7
  go_wp2
  go_ret
  exact ⟨rfl, rfl⟩
theorem mostWrites_any (w : World) :
    Calls Try.prog 20 #[] w fun e w' => e = .returned (.int .i64 12) ∧ w = w' := by
  go_enter Try.func20, Try.ntmps20
  go_wp2
  go_ret
  exact ⟨rfl, rfl⟩
set_option maxHeartbeats 400000 in
theorem key_any (s : ByteArray) (w : World) (hs : s.size ≤ 140737488355328) :
    Calls Try.prog 33 #[.string s] w fun e w' => e = .returned (.int .i64 (errE (kB s))) ∧ w = w' := by
  by_cases h0 : s.size = 0
  · obtain rfl := size_zero h0
    unfold E0
    go_enter Try.func33, Try.ntmps33
    go_wp2
    go_ret
    exact ⟨rfl, rfl⟩
  · have hne := list_ne h0
    by_cases h12 : s.size ≤ 12
    · go_enter Try.func33, Try.ntmps33
      go_wp2
      go_ret
      exact ⟨ret_int (by rw [kB, decide_eq_true (by omega), decide_eq_true h12]; rfl), rfl⟩
    · go_enter Try.func33, Try.ntmps33
      go_wp2
      go_ret
      exact ⟨ret_int (by rw [kB, decide_eq_true (by omega), decide_eq_false h12]; rfl), rfl⟩
set_option maxHeartbeats 400000 in
theorem value_any (s : ByteArray) (w : World) (hs : s.size ≤ 140737488355328) :
    Calls Try.prog 29 #[.string s] w fun e w' => e = .returned (.int .i64 (errE (valB s))) ∧ w = w' := by
  by_cases h : s.size ≤ 20
  all_goals
    go_enter Try.func29, Try.ntmps29
    go_wp2
    go_ret
    exact ⟨ret_int (by simp [h, errE, valB]), rfl⟩
set_option maxHeartbeats 400000 in
theorem between_any (n low high : Int) (w : World) :
    Calls Try.prog 32 #[.int .i64 n, .int .i64 low, .int .i64 high] w fun e w' => e = .returned (.bool (decide (low ≤ n) && decide (n ≤ high))) ∧ w = w' := by
  by_cases h : low ≤ n
  all_goals
    go_enter Try.func32, Try.ntmps32
    go_wp2
    go_ret
    exact ⟨ret_bool (by simp [h] <;> omega), rfl⟩
set_option maxHeartbeats 400000 in
theorem numB_any (n most : Int) (w : World) :
    Calls Try.prog 16 #[.int .i64 n, .int .i64 most] w fun e w' => e = .returned (.bool (decide (0 ≤ n) && decide (n ≤ most))) ∧ w = w' := by
  by_cases h : 0 ≤ n
  all_goals
    go_enter Try.func16, Try.ntmps16
    go_wp2
    go_ret
    exact ⟨ret_bool (by simp [h] <;> omega), rfl⟩
set_option maxHeartbeats 400000 in
theorem rkey_any (s : ByteArray) (w : World) (hs : s.size ≤ 140737488355328) :
    Calls Try.prog 24 #[.string s] w fun e w' => e = .returned (.bool (kB s)) ∧ w = w' := by
  go_enter Try.func24, Try.ntmps24
  go_wp2_with (first | (go_at_call 32; refine (between_any _ _ _ _).mono ?_; rintro e w' ⟨rfl, rfl⟩))
  go_ret
  exact ⟨ret_bool (by rw [kB, Bool.eq_iff_iff]; simp; omega), rfl⟩
set_option maxHeartbeats 400000 in
theorem rvalue_any (s : ByteArray) (w : World) (hs : s.size ≤ 140737488355328) :
    Calls Try.prog 25 #[.string s] w fun e w' => e = .returned (.bool (valB s)) ∧ w = w' := by
  go_enter Try.func25, Try.ntmps25
  go_wp2
  go_ret
  exact ⟨ret_bool (by rw [valB, Bool.eq_iff_iff]; simp; omega), rfl⟩

set_option maxHeartbeats 800000 in
theorem placeMayBe_any (t : Int) (s : ByteArray) (w : World) (hs : s.size ≤ 140737488355328) :
    Calls Try.prog 28 #[.int .i64 t, .string s] w fun e w' => e = .returned (.bool (plB t s)) ∧ w = w' := by
  by_cases h0 : 0 ≤ t
  · by_cases h3 : t < 3
    · cases hk : kB s
      all_goals
        have HK := Lib.hid hk
        go_enter Try.func28, Try.ntmps28
        go_wp2_with (first | (go_at_call 33; refine (key_any _ _ hs).mono ?_; rw [HK.out]; rintro e w' ⟨rfl, rfl⟩))
        go_ret
        exact ⟨ret_bool (by simp [plB, h0, h3, hk]), rfl⟩
    · go_enter Try.func28, Try.ntmps28
      go_wp2
      go_ret
      exact ⟨ret_bool (by unfold plB; rw [decide_eq_false (p := t < 3) (by omega)]; simp), rfl⟩
  · go_enter Try.func28, Try.ntmps28
    go_wp2
    go_ret
    exact ⟨ret_bool (by unfold plB; rw [decide_eq_false (p := 0 ≤ t) (by omega)]; rfl), rfl⟩

set_option maxHeartbeats 800000 in
theorem writeMayBe_any (t : Int) (k s : ByteArray) (g : Bool) (w : World) (hks : k.size ≤ 140737488355328) (hs : s.size ≤ 140737488355328) :
    Calls Try.prog 19 #[.agg #[.int .i64 t, .string k, .string s, .bool g]] w fun e w' => e = .returned (.bool (wOk ⟨t, k, s, g⟩)) ∧ Below w.heap.size w w' := by
  cases hp : plB t k
  · have HP := Lib.hid hp
    go_enter Try.func19, Try.ntmps19
    go_wp2_with (first | (go_at_call 28; refine (placeMayBe_any _ _ _ hks).mono ?_; rw [HP.out]; rintro e w' ⟨rfl, rfl⟩))
    go_ret
    exact ⟨ret_bool (by simp [wOk, hp]), by (repeat (first | exact Below.refl _ _ | assumption | refine nw_more ?_ _ _ | refine nw_alloc ?_ _ | refine nw_drew ?_ | refine nw_drewN ?_ _ | refine nw_set ?_ (by first | (simp; done) | (simp; omega) | omega) _))⟩
  · have HP := Lib.hid hp
    cases hv : valB s
    · have HV := Lib.hid hv
      go_enter Try.func19, Try.ntmps19
      go_wp2_with (first | (go_at_call 28; refine (placeMayBe_any _ _ _ hks).mono ?_; rw [HP.out]; rintro e w' ⟨rfl, rfl⟩) | (go_at_call 29; refine (value_any _ _ hs).mono ?_; rw [HV.out]; rintro e w' ⟨rfl, rfl⟩))
      go_ret
      exact ⟨ret_bool (by simp [wOk, hp, hv]), by (repeat (first | exact Below.refl _ _ | assumption | refine nw_more ?_ _ _ | refine nw_alloc ?_ _ | refine nw_drew ?_ | refine nw_drewN ?_ _ | refine nw_set ?_ (by first | (simp; done) | (simp; omega) | omega) _))⟩
    · have HV := Lib.hid hv
      cases g
      · go_enter Try.func19, Try.ntmps19
        go_wp2_with (first | (go_at_call 28; refine (placeMayBe_any _ _ _ hks).mono ?_; rw [HP.out]; rintro e w' ⟨rfl, rfl⟩) | (go_at_call 29; refine (value_any _ _ hs).mono ?_; rw [HV.out]; rintro e w' ⟨rfl, rfl⟩))
        go_ret
        exact ⟨ret_bool (by simp [wOk, hp, hv]), by (repeat (first | exact Below.refl _ _ | assumption | refine nw_more ?_ _ _ | refine nw_alloc ?_ _ | refine nw_drew ?_ | refine nw_drewN ?_ _ | refine nw_set ?_ (by first | (simp; done) | (simp; omega) | omega) _))⟩
      · by_cases h0 : s.size = 0
        · obtain rfl := size_zero h0
          unfold E0 at *
          go_enter Try.func19, Try.ntmps19
          go_wp2_with (first | (go_at_call 28; refine (placeMayBe_any _ _ _ hks).mono ?_; rw [HP.out]; rintro e w' ⟨rfl, rfl⟩) | (go_at_call 29; refine (value_any _ _ hs).mono ?_; rw [HV.out]; rintro e w' ⟨rfl, rfl⟩))
          go_ret
          exact ⟨ret_bool (by simp [wOk, hp, hv]; rfl), by (repeat (first | exact Below.refl _ _ | assumption | refine nw_more ?_ _ _ | refine nw_alloc ?_ _ | refine nw_drew ?_ | refine nw_drewN ?_ _ | refine nw_set ?_ (by first | (simp; done) | (simp; omega) | omega) _))⟩
        · have hne := list_ne h0
          go_enter Try.func19, Try.ntmps19
          go_wp2_with (first | (go_at_call 28; refine (placeMayBe_any _ _ _ hks).mono ?_; rw [HP.out]; rintro e w' ⟨rfl, rfl⟩) | (go_at_call 29; refine (value_any _ _ hs).mono ?_; rw [HV.out]; rintro e w' ⟨rfl, rfl⟩))
          go_ret
          exact ⟨ret_bool (by simp [wOk, hp, hv, h0]), by (repeat (first | exact Below.refl _ _ | assumption | refine nw_more ?_ _ _ | refine nw_alloc ?_ _ | refine nw_drew ?_ | refine nw_drewN ?_ _ | refine nw_set ?_ (by first | (simp; done) | (simp; omega) | omega) _))⟩

set_option maxHeartbeats 800000 in
theorem rWrite_any (t : Int) (k s : ByteArray) (g : Bool) (w : World) (hks : k.size ≤ 140737488355328) (hs : s.size ≤ 140737488355328) :
    Calls Try.prog 15 #[.agg #[.int .i64 t, .string k, .string s, .bool g]] w fun e w' => e = .returned (.bool (wOk ⟨t, k, s, g⟩)) ∧ Below w.heap.size w w' := by
  cases hb : decide (0 ≤ t) && decide (t ≤ 2)
  · have HB := Lib.hid hb
    go_enter Try.func15, Try.ntmps15
    go_wp2_with (first | (go_at_call 16; refine (numB_any _ _ _).mono ?_; rw [HB.out]; rintro e w' ⟨rfl, rfl⟩))
    go_ret
    exact ⟨ret_bool (by simp only [Bool.and_eq_false_iff, decide_eq_false_iff_not] at hb; rcases hb with hb | hb <;> simp [wOk, plB] <;> omega), by (repeat (first | exact Below.refl _ _ | assumption | refine nw_more ?_ _ _ | refine nw_alloc ?_ _ | refine nw_drew ?_ | refine nw_drewN ?_ _ | refine nw_set ?_ (by first | (simp; done) | (simp; omega) | omega) _))⟩
  · have HB := Lib.hid hb
    simp only [Bool.and_eq_true, decide_eq_true_eq] at hb
    have HT : Hid (decide (0 ≤ t) = true ∧ decide (t < 3) = true) := Lib.hid ⟨by simp; omega, by simp; omega⟩
    clear hb
    cases hk : kB k
    · have HK := Lib.hid hk
      go_enter Try.func15, Try.ntmps15
      go_wp2_with (first | (go_at_call 16; refine (numB_any _ _ _).mono ?_; rw [HB.out]; rintro e w' ⟨rfl, rfl⟩) | (go_at_call 24; refine (rkey_any _ _ hks).mono ?_; rw [HK.out]; rintro e w' ⟨rfl, rfl⟩))
      go_ret
      exact ⟨ret_bool (by simp [wOk, plB, hk]), by (repeat (first | exact Below.refl _ _ | assumption | refine nw_more ?_ _ _ | refine nw_alloc ?_ _ | refine nw_drew ?_ | refine nw_drewN ?_ _ | refine nw_set ?_ (by first | (simp; done) | (simp; omega) | omega) _))⟩
    · have HK := Lib.hid hk
      have HP : Hid (plB t k = true) := Lib.hid (by rw [plB, HT.out.1, HT.out.2, hk]; rfl)
      cases hv : valB s
      · have HV := Lib.hid hv
        go_enter Try.func15, Try.ntmps15
        go_wp2_with (first | (go_at_call 16; refine (numB_any _ _ _).mono ?_; rw [HB.out]; rintro e w' ⟨rfl, rfl⟩) | (go_at_call 24; refine (rkey_any _ _ hks).mono ?_; rw [HK.out]; rintro e w' ⟨rfl, rfl⟩) | (go_at_call 25; refine (rvalue_any _ _ hs).mono ?_; rw [HV.out]; rintro e w' ⟨rfl, rfl⟩))
        go_ret
        exact ⟨ret_bool (by simp [wOk, hv]), by (repeat (first | exact Below.refl _ _ | assumption | refine nw_more ?_ _ _ | refine nw_alloc ?_ _ | refine nw_drew ?_ | refine nw_drewN ?_ _ | refine nw_set ?_ (by first | (simp; done) | (simp; omega) | omega) _))⟩
      · have HV := Lib.hid hv
        cases g
        · go_enter Try.func15, Try.ntmps15
          go_wp2_with (first | (go_at_call 16; refine (numB_any _ _ _).mono ?_; rw [HB.out]; rintro e w' ⟨rfl, rfl⟩) | (go_at_call 24; refine (rkey_any _ _ hks).mono ?_; rw [HK.out]; rintro e w' ⟨rfl, rfl⟩) | (go_at_call 25; refine (rvalue_any _ _ hs).mono ?_; rw [HV.out]; rintro e w' ⟨rfl, rfl⟩))
          go_ret
          exact ⟨ret_bool (by simp [wOk, hv, HP.out]), by (repeat (first | exact Below.refl _ _ | assumption | refine nw_more ?_ _ _ | refine nw_alloc ?_ _ | refine nw_drew ?_ | refine nw_drewN ?_ _ | refine nw_set ?_ (by first | (simp; done) | (simp; omega) | omega) _))⟩
        · by_cases h0 : s.size = 0
          · obtain rfl := size_zero h0
            unfold E0 at *
            go_enter Try.func15, Try.ntmps15
            go_wp2_with (first | (go_at_call 16; refine (numB_any _ _ _).mono ?_; rw [HB.out]; rintro e w' ⟨rfl, rfl⟩) | (go_at_call 24; refine (rkey_any _ _ hks).mono ?_; rw [HK.out]; rintro e w' ⟨rfl, rfl⟩) | (go_at_call 25; refine (rvalue_any _ _ hs).mono ?_; rw [HV.out]; rintro e w' ⟨rfl, rfl⟩))
            go_ret
            exact ⟨ret_bool (by simp [wOk, hv, HP.out]; rfl), by (repeat (first | exact Below.refl _ _ | assumption | refine nw_more ?_ _ _ | refine nw_alloc ?_ _ | refine nw_drew ?_ | refine nw_drewN ?_ _ | refine nw_set ?_ (by first | (simp; done) | (simp; omega) | omega) _))⟩
          · have hne := list_ne h0
            go_enter Try.func15, Try.ntmps15
            go_wp2_with (first | (go_at_call 16; refine (numB_any _ _ _).mono ?_; rw [HB.out]; rintro e w' ⟨rfl, rfl⟩) | (go_at_call 24; refine (rkey_any _ _ hks).mono ?_; rw [HK.out]; rintro e w' ⟨rfl, rfl⟩) | (go_at_call 25; refine (rvalue_any _ _ hs).mono ?_; rw [HV.out]; rintro e w' ⟨rfl, rfl⟩))
            go_ret
            exact ⟨ret_bool (by simp [wOk, hv, HP.out, h0]), by (repeat (first | exact Below.refl _ _ | assumption | refine nw_more ?_ _ _ | refine nw_alloc ?_ _ | refine nw_drew ?_ | refine nw_drewN ?_ _ | refine nw_set ?_ (by first | (simp; done) | (simp; omega) | omega) _))⟩
end Go.Proofs.Ytaalfmpajfpliaa
