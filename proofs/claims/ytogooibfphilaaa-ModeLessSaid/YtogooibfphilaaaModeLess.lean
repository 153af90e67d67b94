/- ModeLess returns true. -/
import Derived.Test.YtogooibfphilaaaModeA
import Derived.Lib.Hide
namespace Go.Proofs.Ytogooibfphilaaa
open Go.RowKit

set_option maxHeartbeats 400000 in
theorem num2_any (n : Int) (w : World) :
    Calls Try.prog 19 #[.int .i64 n] w fun e w' => e = .returned (.int .i64 n) ∧ w = w' := by
  go_enter Try.func19, Try.ntmps19
  go_wp2
  go_ret
  exact ⟨rfl, rfl⟩

theorem fit_ww : fitB 2 2 = false := by decide +kernel
theorem fit_rw : fitB 1 2 = true := by decide +kernel
set_option maxHeartbeats 1000000 in
theorem wakes2_any (w : World) :
    Calls Try.prog 20 #[] w fun e w' => e = .returned (.bool true) ∧ w = w' := by
  have h1 := fit_ww
  have h2 := fit_rw
  go_enter Try.func20, Try.ntmps20
  go_wp2_with (first | (go_at_call 18; refine (fit_yes _ _ _ (by decide +kernel) (by decide +kernel)).mono ?_; rintro e w' ⟨rfl, rfl⟩) | (go_at_call 19; refine (num2_any _ _).mono ?_; rintro e w' ⟨rfl, rfl⟩))
  go_ret
  exact ⟨rfl, rfl⟩

theorem mode_in (k : Nat) (h1 : 1 ≤ k) (h2 : k < 4) : modeB k = true := by simp [modeB]; omega

set_option maxHeartbeats 2000000 in
theorem modeLess_any (w : World) (sv rv : Value) (L : Nat) (S : Nat → ByteArray) (hs : StrsAt w sv L S) :
    Calls Try.prog 5 #[.agg #[sv, rv]] w fun e w' => e = .returned (.bool true) ∧ Below w.heap.size w w' := by
  obtain ⟨p, cap, rfl, h3, h4⟩ := hs
  unfold maxLen at h3
  clear h4
  go_enter Try.func5, Try.ntmps5
  go_wp2
  go_loop [3] (fun i => ∃ k : Nat, 1 ≤ k ∧ k ≤ 4 ∧ i = .int .i64 k) (fun i => 4 - (intOf i).toNat)
  case atStart => exact ⟨1, by omega, by omega, rfl⟩
  case round =>
    obtain ⟨k, k1, k2, rfl⟩ := hrel
    by_cases hk : k < 4
    · have HK := Lib.hid (mode_in k k1 hk)
      go_wp2
      go_loop [4] (fun i => ∃ l : Nat, 1 ≤ l ∧ l ≤ 4 ∧ i = .int .i64 l) (fun i => 4 - (intOf i).toNat)
      case atStart => exact ⟨1, by omega, by omega, rfl⟩
      case round =>
        obtain ⟨l, l1, l2, rfl⟩ := hrel
        by_cases hl : l < 4
        · have HL := Lib.hid (mode_in l l1 hl)
          cases hx : fitB k l
          all_goals
            have hy : fitB l k = _ := (fit_swap k l).trans hx
            have HX := Lib.hid hx
            go_wp2_with (first | (go_at_call 18; refine (fit_yes _ _ _ (by first | exact HK.out | exact HL.out) (by first | exact HK.out | exact HL.out)).mono ?_; rintro e w' ⟨rfl, rfl⟩) | (go_at_call 19; refine (num2_any _ _).mono ?_; rintro e w' ⟨rfl, rfl⟩))
            go_loop [9] (fun i => ∃ d : Nat, 1 ≤ d ∧ d ≤ l ∧ i = .int .i64 d) (fun i => l - (intOf i).toNat)
            case atStart => exact ⟨1, by omega, by omega, rfl⟩
            case round =>
              obtain ⟨d, d1, d2, rfl⟩ := hrel
              by_cases hd : d < l
              · have HD := Lib.hid (mode_in d d1 (by omega))
                first
                  | (have hw : fitB k d = true := fit_less HX.out (by omega))
                  | (cases hw : fitB k d)
                all_goals
                  go_wp2_with (first | (go_at_call 18; refine (fit_yes _ _ _ (by first | exact HK.out | exact HL.out) (by exact HD.out)).mono ?_; rintro e w' ⟨rfl, rfl⟩) | (go_at_call 19; refine (num2_any _ _).mono ?_; rintro e w' ⟨rfl, rfl⟩))
                  go_round
                  case rel => exact ⟨d + 1, by omega, by omega, by go_num⟩
                  case measure => simp [intOf]; omega
              · go_wp2
                go_round
                case rel => exact ⟨l + 1, by omega, by omega, by go_num⟩
                case measure => simp [intOf]; omega
        · go_wp2
          go_round
          case rel => exact ⟨k + 1, by omega, by omega, by go_num⟩
          case measure => simp [intOf]; omega
    · go_wp2_with (first | (go_at_call 20; refine (wakes2_any _).mono ?_; rintro e w' ⟨rfl, rfl⟩))
      go_ret
      exact ⟨rfl, by (repeat (first | exact Below.refl _ _ | assumption | refine nw_more ?_ _ _ | refine nw_alloc ?_ _ | refine nw_drew ?_ | refine nw_drewN ?_ _ | refine nw_set ?_ (by first | (simp; done) | (simp; omega) | omega) _))⟩
end Go.Proofs.Ytogooibfphilaaa
