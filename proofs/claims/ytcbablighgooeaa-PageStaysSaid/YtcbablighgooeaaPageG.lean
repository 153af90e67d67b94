/- Contracts of layer 5's law's helpers: numbers within, the empty page, wakes. -/
import Derived.Test.YtcbablighgooeaaPageF
namespace Go.Proofs.Ytcbablighgooeaa
open Go.RowKit

theorem eqStr_nil (p q : Option Addr) (c d : Nat) (w : World) :
    Calls Try.prog 22 #[.slice p 0 c, .slice q 0 d] w fun e w' => e = .returned (.bool true) ∧ w = w' := by
  go_enter Try.func22, Try.ntmps22
  go_wp2
  go_loop [5] (fun i => i = .int .i64 0) (fun _ => 0)
  case atStart => rfl
  case round =>
    subst hrel
    go_wp2
    go_ret
    exact ⟨rfl, rfl⟩
theorem eqNum_nil (p q : Option Addr) (c d : Nat) (w : World) :
    Calls Try.prog 23 #[.slice p 0 c, .slice q 0 d] w fun e w' => e = .returned (.bool true) ∧ w = w' := by
  go_enter Try.func23, Try.ntmps23
  go_wp2
  go_loop [5] (fun i => i = .int .i64 0) (fun _ => 0)
  case atStart => rfl
  case round =>
    subst hrel
    go_wp2
    go_ret
    exact ⟨rfl, rfl⟩
theorem eqPage_nil (p q p2 q2 : Option Addr) (c d c2 d2 : Nat) (w : World) :
    Calls Try.prog 11 #[.agg #[.slice p 0 c, .slice q 0 d], .agg #[.slice p2 0 c2, .slice q2 0 d2]] w fun e w' => e = .returned (.bool true) ∧ Below w.heap.size w w' := by
  go_enter Try.func11, Try.ntmps11
  go_wp2_with (first | (go_at_call 22; refine (eqStr_nil _ _ _ _ _).mono ?_; rintro e w' ⟨rfl, rfl⟩) | (go_at_call 23; refine (eqNum_nil _ _ _ _ _).mono ?_; rintro e w' ⟨rfl, rfl⟩))
  go_ret
  exact ⟨rfl, by (repeat (first | exact Below.refl _ _ | assumption | refine nw_more ?_ _ _ | refine nw_alloc ?_ _ | refine nw_drew ?_ | refine nw_drewN ?_ _ | refine nw_set ?_ (by first | (simp; done) | (simp; omega) | omega) _))⟩
theorem bytes_nil (p q : Option Addr) (c d : Nat) (w : World) :
    Calls Try.prog 24 #[.agg #[.slice p 0 c, .slice q 0 d]] w fun e w' => e = .returned (.int .i64 0) ∧ Below w.heap.size w w' := by
  go_enter Try.func24, Try.ntmps24
  go_wp2
  go_loop [3, 4] (fun n i => n = .int .i64 0 ∧ i = .int .i64 0) (fun _ _ => 0)
  case atStart => exact ⟨rfl, rfl⟩
  case round =>
    obtain ⟨rfl, rfl⟩ := hrel
    go_wp2
    go_ret
    exact ⟨rfl, by (repeat (first | exact Below.refl _ _ | assumption | refine nw_more ?_ _ _ | refine nw_alloc ?_ _ | refine nw_drew ?_ | refine nw_drewN ?_ _ | refine nw_set ?_ (by first | (simp; done) | (simp; omega) | omega) _))⟩
theorem refPage_nil (p q : Option Addr) (c d : Nat) (w : World) :
    Calls Try.prog 12 #[.agg #[.slice p 0 c, .slice q 0 d]] w fun e w' => e = .returned (.bool true) ∧ Below w.heap.size w w' := by
  go_enter Try.func12, Try.ntmps12
  go_wp2_with (first | (go_at_call 24; refine (bytes_nil _ _ _ _ _).mono ?_; (rintro e w' ⟨rfl, hb⟩; obtain ⟨n, es, rfl⟩ := below_more hb; clear hb)))
  go_loop [3] (fun i => i = .int .i64 0) (fun _ => 0)
  case atStart => rfl
  case round =>
    subst hrel
    go_wp2
    go_ret
    exact ⟨rfl, by (repeat (first | exact Below.refl _ _ | assumption | refine nw_more ?_ _ _ | refine nw_alloc ?_ _ | refine nw_drew ?_ | refine nw_drewN ?_ _ | refine nw_set ?_ (by first | (simp; done) | (simp; omega) | omega) _))⟩

def numB (n m : Int) : Bool := decide (0 ≤ n) && decide (n ≤ m)
theorem numB_any (w : World) (n m : Int) :
    Calls Try.prog 9 #[.int .i64 n, .int .i64 m] w fun e w' => e = .returned (.bool (numB n m)) ∧ w = w' := by
  by_cases h : 0 ≤ n
  · go_enter Try.func9, Try.ntmps9
    go_wp2
    go_ret
    exact ⟨ret_bool (by unfold numB; rw [decide_eq_true h]; rfl), rfl⟩
  · go_enter Try.func9, Try.ntmps9
    go_wp2
    go_ret
    exact ⟨ret_bool (by unfold numB; rw [decide_eq_false (by omega)]; rfl), rfl⟩

def abS : ByteArray := { data := #[97, 98] }
theorem ab_fits : fitsB (addS [] [] abS) = true := by decide +kernel
theorem ab_is : addS [] [] abS = [abS] := rfl
theorem add_ab (w : World) : Calls Try.prog 8 #[.agg #[.slice none 0 0, .slice none 0 0], .string abS] w fun e w' => ∃ g off c q d, e = .returned (.tuple #[.agg #[.slice (some ⟨g, off, none⟩) 1 c, .slice q 0 d], .int .i64 0, .int .i64 0]) ∧ PageIn 0 w' (.slice (some ⟨g, off, none⟩) 1 c) (.slice q 0 d) [abS] [] ∧ Below w.heap.size w w' := by
  refine (Add_any 0 w (.slice none 0 0) (.slice none 0 0) [] [] abS ⟨StrsIn.nil _ _, IntsIn.nil _ _⟩ PgOk.nil (by decide)).mono ?_
  rintro e w' ⟨h1, -, hb⟩
  obtain ⟨u1, u2, rfl, hp⟩ := h1 ab_fits
  have h0 := hp.mono (Nat.zero_le _)
  rw [ab_is] at h0
  rcases hp.1.form with ⟨h2, -⟩ | ⟨g, off, c, rfl, -⟩
  · rw [ab_is] at h2; cases h2
  · obtain ⟨q, d, rfl, -⟩ := hp.2.slice
    exact ⟨g, off, c, q, d, rfl, h0, hb⟩

set_option maxHeartbeats 1000000 in
theorem wakes5_any (w : World) :
    Calls Try.prog 13 #[] w fun e w' => e = .returned (.bool true) ∧ Below w.heap.size w w' := by
  go_enter Try.func13, Try.ntmps13
  go_wp2_with fail
  refine (add_ab _).mono ?_
  rintro e w' ⟨g, off, c, q, d, rfl, hp, hb⟩
  have HP := Lib.hid hp
  obtain ⟨n, es, rfl⟩ := below_more hb
  clear hp hb
  go_wp2_with fail
  refine (Get_any 0 _ _ _ [abS] [] 0 (HP.out.below (by (repeat (first | exact Below.refl _ _ | assumption | refine nw_more ?_ _ _ | refine nw_alloc ?_ _ | refine nw_drew ?_ | refine nw_drewN ?_ _ | refine nw_set ?_ (by first | (simp; done) | (simp; omega) | omega) _)))) (by rw [← ab_is]; exact (add_ok PgOk.nil ab_fits).1) (by decide +kernel)).mono ?_
  rw [show [abS].getD 0 E0 = { data := #[97, 98] } from rfl]
  (rintro e w' ⟨rfl, hb⟩; obtain ⟨n, es, rfl⟩ := below_more hb; clear hb)
  go_wp2_with (first | (go_at_call 7; refine (num5_any _ _).mono ?_; rintro e w' ⟨rfl, rfl⟩))
  go_ret
  exact ⟨rfl, by (repeat (first | exact Below.refl _ _ | assumption | refine nw_more ?_ _ _ | refine nw_alloc ?_ _ | refine nw_drew ?_ | refine nw_drewN ?_ _ | refine nw_set ?_ (by first | (simp; done) | (simp; omega) | omega) _))⟩

set_option maxHeartbeats 400000 in
theorem within_any (i : Int) (n : Nat) (w : World) (hn : 0 < n) (hn2 : n < 1000) :
    Calls Try.prog 5 #[.int .i64 i, .int .i64 n] w fun e w' => (∃ r : Nat, r < n ∧ e = .returned (.int .i64 r)) ∧ w = w' := by
  have HW : Hid (∃ r : Nat, r < n ∧ (r : Int) = wrap64 ((IntKind.u64.wrap i).tmod n)) := Lib.hid (by
    have h0 : (0 : Int) ≤ IntKind.u64.wrap i := by rw [IntKind.wrap_u64]; omega
    have h1 : (IntKind.u64.wrap i).tmod n = (IntKind.u64.wrap i) % n := Int.tmod_eq_emod_of_nonneg h0
    have h2 : 0 ≤ (IntKind.u64.wrap i) % (n : Int) := Int.emod_nonneg _ (by omega)
    have h3 : (IntKind.u64.wrap i) % (n : Int) < n := Int.emod_lt_of_pos _ (by omega)
    rw [h1]
    generalize (IntKind.u64.wrap i) % (n : Int) = q at h2 h3
    exact ⟨q.toNat, by omega, by rw [IntWalk.wrap64_in _ (by omega)]; omega⟩)
  go_enter Try.func5, Try.ntmps5
  go_wp2
  go_ret
  obtain ⟨r, hr, he⟩ := HW.out
  exact ⟨⟨r, hr, ret_int he.symm⟩, rfl⟩
end Go.Proofs.Ytcbablighgooeaa
