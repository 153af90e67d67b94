/- Contracts: the small functions of tapes. No condition. -/
import Derived.Test.YtgaalahlkllkaaaTpPlain
import Derived.Test.YtgaalahlkllkaaaShelf
import Derived.WalkKit
import Derived.WalkSpells
import Derived.WalkLawsBesides
import Derived.Lib.ConvBytes
import Derived.Laws.MakeOwn
import Derived.Deep.RegionHeld3
import Derived.Deep.RegionWith
import Derived.BigRegion
namespace Go.Proofs.Ytgaalahlkllkaaa
open Go.RowKit

theorem Calls.more_same_intB {P : Program} {f : FuncId} {args : Array Value} {w : World} {n : Nat} {es : Array Obj} {b : Int} (c : Int) (hc : b = c)
    (h : Calls P f args (more w n es) fun e w' => e = .returned (.int .i64 b) ∧ Below (more w n es).heap.size (more w n es) w') : Calls P f args (more w n es) fun e w'' => e = .returned (.int .i64 c) ∧ ∃ p : MoreBy, w'' = more w p.n p.es := by
  subst hc; exact Calls.more_of h
theorem num18_any (n : Int) (w : World) :
    Calls Try.prog 8 #[.int .i64 n] w fun e w' => e = .returned (.int .i64 n) ∧ w = w' := by
  go_enter Try.func8, Try.ntmps8
  go_wp2
  go_ret
  exact ⟨rfl, rfl⟩
set_option maxHeartbeats 400000 in
theorem within_any (i : Int) (n : Nat) (w : World) (hn : 0 < n) (hn2 : n < 1000) :
    Calls Try.prog 5 #[.int .i64 i, .int .i64 n] w fun e w' => (∃ r : Nat, r < n ∧ e = .returned (.int .i64 r)) ∧ w = w' := by
  have HW : Hid (∃ r : Nat, r < n ∧ (r : Int) = wrap64 ((IntKind.u64.wrap i).tmod n)) := Lib.hid (by
    have h0 : (0 : Int) ≤ IntKind.u64.wrap i := by rw [IntKind.wrap_u64]; omega
    have h1 : (IntKind.u64.wrap i).tmod n = (IntKind.u64.wrap i) % n := Int.tmod_eq_emod_of_nonneg h0
    have h2 : 0 ≤ (IntKind.u64.wrap i) % (n : Int) := Int.emod_nonneg _ (by omega)
    have h3 : (IntKind.u64.wrap i) % (n : Int) < n := Int.emod_lt_of_pos _ (by omega)
    rw [h1]
    generalize (IntKind.u64.wrap i) % (n : Int) = q at h2 h3
    exact ⟨q.toNat, by omega, by rw [IntWalk.wrap64_in _ (by omega)]; omega⟩)
  go_enter Try.func5, Try.ntmps5
  go_wp2
  go_ret
  obtain ⟨r, hr, he⟩ := HW.out
  exact ⟨⟨r, hr, ret_int he.symm⟩, rfl⟩
theorem mostWaits_any (w : World) :
    Calls Try.prog 30 #[] w fun e w' => e = .returned (.int .i64 2048) ∧ w = w' := by
  go_enter Try.func30, Try.ntmps30
  go_wp2
  go_ret
  exact ⟨rfl, rfl⟩
set_option maxHeartbeats 400000 in
theorem isSize_any (n : Int) (w : World) :
    Calls Try.prog 29 #[.int .i64 n] w fun e w' => e = .returned (.bool (decide (1 ≤ n) && decide (n ≤ 512))) ∧ w = w' := by
  by_cases h : 1 ≤ n
  all_goals
    go_enter Try.func29, Try.ntmps29
    go_wp2
    go_ret
    exact ⟨ret_bool (by simp [h] <;> omega), rfl⟩
set_option maxHeartbeats 400000 in
theorem between_any (n a b : Int) (w : World) :
    Calls Try.prog 21 #[.int .i64 n, .int .i64 a, .int .i64 b] w fun e w' => e = .returned (.bool (decide (a ≤ n) && decide (n ≤ b))) ∧ w = w' := by
  by_cases h : a ≤ n
  all_goals
    go_enter Try.func21, Try.ntmps21
    go_wp2
    go_ret
    exact ⟨ret_bool (by simp [h] <;> omega), rfl⟩
set_option maxHeartbeats 400000 in
theorem rnum_any (n b : Int) (w : World) :
    Calls Try.prog 22 #[.int .i64 n, .int .i64 b] w fun e w' => e = .returned (.bool (decide (0 ≤ n) && decide (n ≤ b))) ∧ w = w' := by
  by_cases h : 0 ≤ n
  all_goals
    go_enter Try.func22, Try.ntmps22
    go_wp2
    go_ret
    exact ⟨ret_bool (by simp [h] <;> omega), rfl⟩
set_option maxHeartbeats 400000 in
theorem isNoText_any (s : ByteArray) (w : World) (hs : s.size ≤ 140737488355328) :
    Calls Try.prog 32 #[.string s] w fun e w' => e = .returned (.bool (!decide (s.size = 32))) ∧ w = w' := by
  by_cases h : s.size = 32
  · have h2 : (s.size : Int) = 32 := by omega
    go_enter Try.func32, Try.ntmps32
    go_wp2
    go_ret
    exact ⟨ret_bool (by simp [h]), rfl⟩
  · have h2 : ¬ (s.size : Int) = 32 := by omega
    go_enter Try.func32, Try.ntmps32
    go_wp2
    go_ret
    exact ⟨ret_bool (by simp [h, h2]), rfl⟩
set_option maxHeartbeats 1000000 in
theorem isSector_any (p q : Option Addr) (n c m d : Nat) (i : Int) (w : World) :
    Calls Try.prog 26 #[.agg #[.slice p n c, .slice q m d], .int .i64 i] w fun e w' => e = .returned (.bool (decide (0 ≤ i) && decide (i < (n : Int)))) ∧ Below w.heap.size w w' := by
  by_cases h : 0 ≤ i
  all_goals
    go_enter Try.func26, Try.ntmps26
    go_wp2
    go_ret
    exact ⟨ret_bool (by simp [h] <;> omega), by (repeat (first | exact Below.refl _ _ | assumption | refine nw_more ?_ _ _ | refine nw_alloc ?_ _ | refine nw_drew ?_ | refine nw_drewN ?_ _ | refine nw_set ?_ (by first | (simp; done) | (simp; omega) | omega) _))⟩
set_option maxHeartbeats 2000000 in
theorem fault_any (p q : Option Addr) (n c m d : Nat) (i : Int) (s : ByteArray) (w : World) (hs : s.size ≤ 140737488355328) :
    Calls Try.prog 35 #[.agg #[.slice p n c, .slice q m d], .agg #[.int .i64 i, .string s]] w fun e w' => e = .returned (.int .i64 (faultE n i s)) ∧ Below w.heap.size w w' := by
  cases hc : (decide (0 ≤ i) && decide (i < (n : Int)))
  · have HC := Lib.hid hc
    have HF : Hid (faultE n i s = 3) := Lib.hid (by unfold faultE; rw [hc]; rfl)
    clear hc
    go_enter Try.func35, Try.ntmps35
    go_wp2_with (first | (go_at_call 26; refine (isSector_any _ _ _ _ _ _ _ _).mono ?_; rw [HC.out]; (rintro e w' ⟨rfl, hb⟩; obtain ⟨n, es, rfl⟩ := below_more hb; clear hb)))
    go_ret
    exact ⟨ret_int HF.out.symm, by (repeat (first | exact Below.refl _ _ | assumption | refine nw_more ?_ _ _ | refine nw_alloc ?_ _ | refine nw_drew ?_ | refine nw_drewN ?_ _ | refine nw_set ?_ (by first | (simp; done) | (simp; omega) | omega) _))⟩
  · have HC := Lib.hid hc
    cases ht : decide (s.size = 32)
    · have HT : Hid ((!decide (s.size = 32)) = true) := Lib.hid (by rw [ht]; rfl)
      have HF : Hid (faultE n i s = 1) := Lib.hid (by unfold faultE; rw [hc, if_pos rfl, if_neg (of_decide_eq_false ht)])
      clear hc ht
      go_enter Try.func35, Try.ntmps35
      go_wp2_with (first | (go_at_call 26; refine (isSector_any _ _ _ _ _ _ _ _).mono ?_; rw [HC.out]; (rintro e w' ⟨rfl, hb⟩; obtain ⟨n, es, rfl⟩ := below_more hb; clear hb)) | (go_at_call 32; refine (isNoText_any _ _ hs).mono ?_; rw [HT.out]; rintro e w' ⟨rfl, rfl⟩))
      go_ret
      exact ⟨ret_int HF.out.symm, by (repeat (first | exact Below.refl _ _ | assumption | refine nw_more ?_ _ _ | refine nw_alloc ?_ _ | refine nw_drew ?_ | refine nw_drewN ?_ _ | refine nw_set ?_ (by first | (simp; done) | (simp; omega) | omega) _))⟩
    · have HT : Hid ((!decide (s.size = 32)) = false) := Lib.hid (by rw [ht]; rfl)
      have HF : Hid (faultE n i s = 0) := Lib.hid (by unfold faultE; rw [hc, if_pos rfl, if_pos (of_decide_eq_true ht)])
      clear hc ht
      go_enter Try.func35, Try.ntmps35
      go_wp2_with (first | (go_at_call 26; refine (isSector_any _ _ _ _ _ _ _ _).mono ?_; rw [HC.out]; (rintro e w' ⟨rfl, hb⟩; obtain ⟨n, es, rfl⟩ := below_more hb; clear hb)) | (go_at_call 32; refine (isNoText_any _ _ hs).mono ?_; rw [HT.out]; rintro e w' ⟨rfl, rfl⟩))
      go_ret
      exact ⟨ret_int HF.out.symm, by (repeat (first | exact Below.refl _ _ | assumption | refine nw_more ?_ _ _ | refine nw_alloc ?_ _ | refine nw_drew ?_ | refine nw_drewN ?_ _ | refine nw_set ?_ (by first | (simp; done) | (simp; omega) | omega) _))⟩
theorem clone_any (s : ByteArray) (w : World) (hs : s.size ≤ 140737488355328) :
    Calls Try.prog 27 #[.string s] w fun e w' => e = .returned (.string s) ∧ Below w.heap.size w w' := by
  go_enter Try.func27, Try.ntmps27
  go_wp2_with fail
  refine (Try.stringslite_Clone s _ (by omega)).mono ?_
  (rintro e w' ⟨rfl, hb⟩; obtain ⟨n, es, rfl⟩ := below_more hb; clear hb)
  go_wp2
  go_ret
  exact ⟨rfl, by (repeat (first | exact Below.refl _ _ | assumption | refine nw_more ?_ _ _ | refine nw_alloc ?_ _ | refine nw_drew ?_ | refine nw_drewN ?_ _ | refine nw_set ?_ (by first | (simp; done) | (simp; omega) | omega) _))⟩
set_option maxHeartbeats 1000000 in
theorem copiedPut_any (i : Int) (s : ByteArray) (w : World) (hs : s.size ≤ 140737488355328) :
    Calls Try.prog 36 #[.agg #[.int .i64 i, .string s]] w fun e w' => e = .returned (.agg #[.int .i64 i, .string s]) ∧ Below w.heap.size w w' := by
  go_enter Try.func36, Try.ntmps36
  go_wp2_with fail
  go_region_held3 (fun w9 => w9.cell? ⟨w.heap.size, 0, none⟩ = some (.int .i64 i) ∧ w9.cell? ⟨w.heap.size, 1, none⟩ = some (.string s)) (simp [go_sem, *]) (first | (go_at_call 27; refine (clone_any s _ hs).mono ?_; (rintro e w' ⟨rfl, hb⟩; obtain ⟨n, es, rfl⟩ := below_more hb; clear hb)))
  all_goals
    go_wp2
    refine bodyPost_ret (v := .agg #[.int .i64 i, .string s]) (by simp [results, Try.results36, go_sem]) rfl ⟨rfl, ?_⟩
    (repeat (first | exact Below.refl _ _ | assumption | refine nw_more ?_ _ _ | refine nw_alloc ?_ _ | refine nw_drew ?_ | refine nw_drewN ?_ _ | refine nw_set ?_ (by first | (simp; done) | (simp; omega) | omega) _))
theorem first_all (w : World) (v : Value) :
    Calls Try.prog 19 #[v, .int .i64 (-1)] w fun e w' => e = .returned v ∧ w = w' := by
  go_enter Try.func19, Try.ntmps19
  go_wp2
  go_ret
  exact ⟨rfl, rfl⟩
end Go.Proofs.Ytgaalahlkllkaaa
