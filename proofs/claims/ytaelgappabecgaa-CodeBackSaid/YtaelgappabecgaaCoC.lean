/- Contracts: what a record may be. No condition. -/
import Derived.Test.YtaelgappabecgaaCoMem
import Derived.Test.YtaelgappabecgaaCoPlain
import Derived.WalkKit
import Derived.WalkSpells
import Derived.WalkLawsBesides
namespace Go.Proofs.Ytaelgappabecgaa
open Go.RowKit

@[go_sem] theorem errE_true : errE true = 0 := rfl
@[go_sem] theorem errE_false : errE false = 1 := rfl
theorem size_zero {s : ByteArray} (h : s.size = 0) : s = E0 := by
  have : s.data.toList = [] := List.length_eq_zero_iff.1 h
  apply ByteArray.ext
  exact Array.toList_inj.1 this
theorem list_ne {s : ByteArray} (h0 : ¬ s.size = 0) : (s.toList == []) = false := by
  rw [Lib.toList_data]
  cases e : s.data.toList with
  | nil => exact absurd (congrArg List.length e) h0
  | cons a r => rfl
theorem mostWrites_any (w : World) :
    Calls Try.prog 26 #[] w fun e w' => e = .returned (.int .i64 64) ∧ w = w' := by
  go_enter Try.func26, Try.ntmps26
  go_wp2
  go_ret
  exact ⟨rfl, rfl⟩
set_option maxHeartbeats 400000 in
theorem isNumber_any (n : Int) (w : World) :
    Calls Try.prog 19 #[.int .i64 n] w fun e w' => e = .returned (.bool (decide (0 ≤ n) && decide (n ≤ 1073741824))) ∧ w = w' := by
  by_cases h : 0 ≤ n
  all_goals
    go_enter Try.func19, Try.ntmps19
    go_wp2
    go_ret
    exact ⟨ret_bool (by simp [h] <;> omega), rfl⟩
set_option maxHeartbeats 400000 in
theorem key_any (s : ByteArray) (w : World) (hs : s.size ≤ 140737488355328) :
    Calls Try.prog 40 #[.string s] w fun e w' => e = .returned (.int .i64 (errE (kB s))) ∧ w = w' := by
  by_cases h0 : s.size = 0
  · obtain rfl := size_zero h0
    unfold E0
    go_enter Try.func40, Try.ntmps40
    go_wp2
    go_ret
    exact ⟨rfl, rfl⟩
  · have hne := list_ne h0
    by_cases h12 : s.size ≤ 12
    · go_enter Try.func40, Try.ntmps40
      go_wp2
      go_ret
      exact ⟨ret_int (by rw [kB, decide_eq_true (by omega), decide_eq_true h12]; rfl), rfl⟩
    · go_enter Try.func40, Try.ntmps40
      go_wp2
      go_ret
      exact ⟨ret_int (by rw [kB, decide_eq_true (by omega), decide_eq_false h12]; rfl), rfl⟩
set_option maxHeartbeats 400000 in
theorem value_any (s : ByteArray) (w : World) (hs : s.size ≤ 140737488355328) :
    Calls Try.prog 41 #[.string s] w fun e w' => e = .returned (.int .i64 (errE (valB s))) ∧ w = w' := by
  by_cases h : s.size ≤ 20
  all_goals
    go_enter Try.func41, Try.ntmps41
    go_wp2
    go_ret
    exact ⟨ret_int (by simp [h, errE, valB]), rfl⟩

set_option maxHeartbeats 2000000 in
theorem mayNot_any (t : Int) (k s : ByteArray) (g : Bool) (w : World) (hks : k.size ≤ 140737488355328) (hs : s.size ≤ 140737488355328) :
    Calls Try.prog 28 #[.agg #[.int .i64 t, .string k, .string s, .bool g]] w fun e w' => e = .returned (.bool (!wOk ⟨t, k, s, g⟩)) ∧ Below w.heap.size w w' := by
  by_cases h0 : t < 0
  · go_enter Try.func28, Try.ntmps28
    go_wp2
    go_ret
    exact ⟨ret_bool (by unfold wOk plB; rw [decide_eq_false (p := 0 ≤ t) (by omega)]; rfl), by (repeat (first | exact Below.refl _ _ | assumption | refine nw_more ?_ _ _ | refine nw_alloc ?_ _ | refine nw_drew ?_ | refine nw_drewN ?_ _ | refine nw_set ?_ (by first | (simp; done) | (simp; omega) | omega) _))⟩
  · by_cases h3 : 3 ≤ t
    · go_enter Try.func28, Try.ntmps28
      go_wp2
      go_ret
      exact ⟨ret_bool (by unfold wOk plB; rw [decide_eq_false (p := t < 3) (by omega)]; simp), by (repeat (first | exact Below.refl _ _ | assumption | refine nw_more ?_ _ _ | refine nw_alloc ?_ _ | refine nw_drew ?_ | refine nw_drewN ?_ _ | refine nw_set ?_ (by first | (simp; done) | (simp; omega) | omega) _))⟩
    · cases hk : kB k
      · have HK := Lib.hid hk
        go_enter Try.func28, Try.ntmps28
        go_wp2_with (first | (go_at_call 40; refine (key_any _ _ hks).mono ?_; rw [HK.out]; rintro e w' ⟨rfl, rfl⟩))
        go_ret
        exact ⟨ret_bool (by unfold wOk plB; rw [hk]; simp), by (repeat (first | exact Below.refl _ _ | assumption | refine nw_more ?_ _ _ | refine nw_alloc ?_ _ | refine nw_drew ?_ | refine nw_drewN ?_ _ | refine nw_set ?_ (by first | (simp; done) | (simp; omega) | omega) _))⟩
      · have HK := Lib.hid hk
        have HP : Hid (plB t k = true) := Lib.hid (by unfold plB; rw [decide_eq_true (by omega), decide_eq_true (by omega), hk]; rfl)
        cases hv : valB s
        · have HV := Lib.hid hv
          go_enter Try.func28, Try.ntmps28
          go_wp2_with (first | (go_at_call 40; refine (key_any _ _ hks).mono ?_; rw [HK.out]; rintro e w' ⟨rfl, rfl⟩) | (go_at_call 41; refine (value_any _ _ hs).mono ?_; rw [HV.out]; rintro e w' ⟨rfl, rfl⟩))
          go_ret
          exact ⟨ret_bool (by unfold wOk; rw [hv]; simp), by (repeat (first | exact Below.refl _ _ | assumption | refine nw_more ?_ _ _ | refine nw_alloc ?_ _ | refine nw_drew ?_ | refine nw_drewN ?_ _ | refine nw_set ?_ (by first | (simp; done) | (simp; omega) | omega) _))⟩
        · have HV := Lib.hid hv
          cases g
          · go_enter Try.func28, Try.ntmps28
            go_wp2_with (first | (go_at_call 40; refine (key_any _ _ hks).mono ?_; rw [HK.out]; rintro e w' ⟨rfl, rfl⟩) | (go_at_call 41; refine (value_any _ _ hs).mono ?_; rw [HV.out]; rintro e w' ⟨rfl, rfl⟩))
            go_ret
            exact ⟨ret_bool (by unfold wOk; rw [hv, HP.out]; rfl), by (repeat (first | exact Below.refl _ _ | assumption | refine nw_more ?_ _ _ | refine nw_alloc ?_ _ | refine nw_drew ?_ | refine nw_drewN ?_ _ | refine nw_set ?_ (by first | (simp; done) | (simp; omega) | omega) _))⟩
          · by_cases hz : s.size = 0
            · obtain rfl := size_zero hz
              unfold E0 at *
              go_enter Try.func28, Try.ntmps28
              go_wp2_with (first | (go_at_call 40; refine (key_any _ _ hks).mono ?_; rw [HK.out]; rintro e w' ⟨rfl, rfl⟩) | (go_at_call 41; refine (value_any _ _ hs).mono ?_; rw [HV.out]; rintro e w' ⟨rfl, rfl⟩))
              go_ret
              exact ⟨ret_bool (by unfold wOk; rw [hv, HP.out]; rfl), by (repeat (first | exact Below.refl _ _ | assumption | refine nw_more ?_ _ _ | refine nw_alloc ?_ _ | refine nw_drew ?_ | refine nw_drewN ?_ _ | refine nw_set ?_ (by first | (simp; done) | (simp; omega) | omega) _))⟩
            · have hne := list_ne hz
              go_enter Try.func28, Try.ntmps28
              go_wp2_with (first | (go_at_call 40; refine (key_any _ _ hks).mono ?_; rw [HK.out]; rintro e w' ⟨rfl, rfl⟩) | (go_at_call 41; refine (value_any _ _ hs).mono ?_; rw [HV.out]; rintro e w' ⟨rfl, rfl⟩))
              go_ret
              exact ⟨ret_bool (by unfold wOk; rw [hv, HP.out]; simp [hz]), by (repeat (first | exact Below.refl _ _ | assumption | refine nw_more ?_ _ _ | refine nw_alloc ?_ _ | refine nw_drew ?_ | refine nw_drewN ?_ _ | refine nw_set ?_ (by first | (simp; done) | (simp; omega) | omega) _))⟩
end Go.Proofs.Ytaelgappabecgaa
