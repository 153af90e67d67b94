/- The small functions of layer 4's laws; wakes. -/
import Derived.Test.YthkpeddgcglpcaaWaitG
namespace Go.Proofs.Ythkpeddgcglpcaa
open Go.RowKit

theorem IntsAt.lit1 {w : World} {b cap : Nat} {x : Int} (hb : b < w.heap.size) (hc : 1 ≤ cap) (h : w.cell? ⟨b, 0, none⟩ = some (.int .i64 x)) : IntsAt w (.slice (some ⟨b, 0, none⟩) 1 cap) [x] :=
  ⟨by simp, some ⟨b, 0, none⟩, cap, rfl, hc, fun i hi => ⟨b, 0, rfl, hb, by
    have : i = 0 := by simpa using hi
    subst this; simpa using h⟩⟩
theorem IntsAt.lit2 {w : World} {b cap : Nat} {x y : Int} (hb : b < w.heap.size) (hc : 2 ≤ cap) (h : w.cell? ⟨b, 0, none⟩ = some (.int .i64 x)) (h1 : w.cell? ⟨b, 1, none⟩ = some (.int .i64 y)) : IntsAt w (.slice (some ⟨b, 0, none⟩) 2 cap) [x, y] :=
  ⟨by simp, some ⟨b, 0, none⟩, cap, rfl, hc, fun i hi => ⟨b, 0, rfl, hb, by
    match i, hi with
    | 0, _ => simpa using h
    | 1, _ => simpa using h1⟩⟩
theorem WaitsAt.lit2 {w : World} {b cap : Nat} {o o' : Int} {v v' : Value} {l l' : List Int} (hb : b < w.heap.size) (hc : 2 ≤ cap) (h : w.cell? ⟨b, 0, none⟩ = some (.int .i64 o)) (h1 : w.cell? ⟨b, 1, none⟩ = some v)
    (h2 : w.cell? ⟨b, 2, none⟩ = some (.int .i64 o')) (h3 : w.cell? ⟨b, 3, none⟩ = some v') (hv : IntsAt w v l) (hv' : IntsAt w v' l') : WaitsAt w (.slice (some ⟨b, 0, none⟩) 2 cap) [(o, l), (o', l')] :=
  ⟨[⟨o, v, l⟩, ⟨o', v', l'⟩], rfl, by simp, ⟨some ⟨b, 0, none⟩, cap, rfl, hc, fun i hi => ⟨b, 0, rfl, hb, by
    match i, hi with
    | 0, _ => exact ⟨by simpa using h, by simpa using h1⟩
    | 1, _ => exact ⟨by simpa using h2, by simpa using h3⟩⟩⟩, by
    intro x hx; simp at hx; rcases hx with rfl | rfl <;> assumption⟩

set_option maxHeartbeats 400000 in
theorem num4_any (n : Int) (w : World) :
    Calls Try.prog 14 #[.int .i64 n] w fun e w' => e = .returned (.int .i64 n) ∧ w = w' := by
  go_enter Try.func14, Try.ntmps14
  go_wp2
  go_ret
  exact ⟨rfl, rfl⟩

set_option maxHeartbeats 400000 in
theorem must_any (u : Value) (w : World) :
    Calls Try.prog 34 #[u, .int .i64 0] w fun e w' => e = .returned u ∧ w = w' := by
  go_enter Try.func34, Try.ntmps34
  go_wp2_with (first | (go_at_call 14; refine (num4_any _ _).mono ?_; rintro e w' ⟨rfl, rfl⟩))
  go_ret
  exact ⟨rfl, rfl⟩

def two2 : List Wt := [(0, [1]), (1, [0])]
theorem two_may : mayB two2 = true := by decide +kernel
theorem two_ages : agesB [5, 3] = true := agesB_of (by decide +kernel) (by decide +kernel)
theorem two_all : allAges [5, 3] two2 = true := by decide +kernel
theorem two_circle1 : circleL two2 1 = [0, 1] := by decide +kernel
theorem two_circle0 : circleL two2 0 = [0, 1] := by decide +kernel
theorem two_young : youngL [5, 3] [0, 1] = 0 := by decide +kernel

def twoWorld (w : World) : World := ((w.alloc (Obj.cells #[.int .i64 1] 3)).alloc (Obj.cells #[.int .i64 0] 3)).alloc (Obj.cells #[.int .i64 0, .slice (some ⟨w.heap.size, 0, none⟩) 1 1, .int .i64 1, .slice (some ⟨w.heap.size + 1, 0, none⟩) 1 1] 41)
theorem two_at (w : World) : WaitsAt (twoWorld w) (.slice (some ⟨w.heap.size + 1 + 1, 0, none⟩) 2 2) two2 := by
  refine WaitsAt.lit2 (v := .slice (some ⟨w.heap.size, 0, none⟩) 1 1) (v' := .slice (some ⟨w.heap.size + 1, 0, none⟩) 1 1) ?_ (Nat.le_refl _) ?_ ?_ ?_ ?_ (IntsAt.lit1 ?_ (Nat.le_refl _) ?_) (IntsAt.lit1 ?_ (Nat.le_refl _) ?_)
  all_goals simp [twoWorld, go_sem] <;> omega
theorem ages_at (w : World) : IntsAt ((twoWorld w).alloc (Obj.cells #[.int .i64 5, .int .i64 3] 3)) (.slice (some ⟨w.heap.size + 1 + 1 + 1, 0, none⟩) 2 2) [5, 3] := by
  refine IntsAt.lit2 ?_ (Nat.le_refl _) ?_ ?_
  all_goals simp [twoWorld, go_sem] <;> omega

set_option maxHeartbeats 1000000 in
theorem wakes4_any (w : World) :
    Calls Try.prog 17 #[] w fun e w' => e = .returned (.bool true) ∧ Below w.heap.size w w' := by
  have HL := Lib.hid (two_at w)
  have HV := Lib.hid (ages_at w)
  have h0 : twoWorld w = ((w.alloc (Obj.cells #[.int .i64 1] 3)).alloc (Obj.cells #[.int .i64 0] 3)).alloc (Obj.cells #[.int .i64 0, .slice (some ⟨w.heap.size, 0, none⟩) 1 1, .int .i64 1, .slice (some ⟨w.heap.size + 1, 0, none⟩) 1 1] 41) := rfl
  rw [h0] at HL HV
  clear h0
  go_enter Try.func17, Try.ntmps17
  go_wp2_with fail
  refine (victim_some _ _ _ two2 [5, 3] 1 (HL.out.below (by (repeat (first | exact Below.refl _ _ | assumption | refine nw_more ?_ _ _ | refine nw_alloc ?_ _ | refine nw_drew ?_ | refine nw_drewN ?_ _ | refine nw_set ?_ (by first | (simp; done) | (simp; omega) | omega) _)))) HV.out two_may two_ages two_all (by rw [two_circle1]; decide)).mono ?_
  rw [two_circle1, two_young]
  (rintro e w' ⟨rfl, hb⟩; obtain ⟨n, es, rfl⟩ := below_more hb; clear hb)
  go_wp2_with (first | (go_at_call 14; refine (num4_any _ _).mono ?_; rintro e w' ⟨rfl, rfl⟩))
  refine (Circle_any _ _ two2 0 (HL.out.below (by (repeat (first | exact Below.refl _ _ | assumption | refine nw_more ?_ _ _ | refine nw_alloc ?_ _ | refine nw_drew ?_ | refine nw_drewN ?_ _ | refine nw_set ?_ (by first | (simp; done) | (simp; omega) | omega) _)))) two_may).mono ?_
  rintro e w' ⟨u, rfl, hu, hb⟩
  rw [two_circle0] at hu
  obtain ⟨p, cap, rfl⟩ : ∃ p cap, u = .slice p 2 cap := hu.slice
  have HB : Hid (Below w.heap.size w w') := Lib.hid (nw_trans (by (repeat (first | exact Below.refl _ _ | assumption | refine nw_more ?_ _ _ | refine nw_alloc ?_ _ | refine nw_drew ?_ | refine nw_drewN ?_ _ | refine nw_set ?_ (by first | (simp; done) | (simp; omega) | omega) _))) hb)
  clear hu hb
  go_wp2_with (first | (go_at_call 34; refine (must_any _ _).mono ?_; rintro e w' ⟨rfl, rfl⟩))
  go_ret
  exact ⟨rfl, HB.out⟩

set_option maxHeartbeats 400000 in
theorem within_any (i : Int) (n : Nat) (w : World) (hn : 0 < n) (hn2 : n < 1000) :
    Calls Try.prog 18 #[.int .i64 i, .int .i64 n] w fun e w' => (∃ r : Nat, r < n ∧ e = .returned (.int .i64 r)) ∧ w = w' := by
  have HW : Hid (∃ r : Nat, r < n ∧ (r : Int) = wrap64 ((IntKind.u64.wrap i).tmod n)) := Lib.hid (by
    have h0 : (0 : Int) ≤ IntKind.u64.wrap i := by rw [IntKind.wrap_u64]; omega
    have h1 : (IntKind.u64.wrap i).tmod n = (IntKind.u64.wrap i) % n := Int.tmod_eq_emod_of_nonneg h0
    have h2 : 0 ≤ (IntKind.u64.wrap i) % (n : Int) := Int.emod_nonneg _ (by omega)
    have h3 : (IntKind.u64.wrap i) % (n : Int) < n := Int.emod_lt_of_pos _ (by omega)
    rw [h1]
    generalize (IntKind.u64.wrap i) % (n : Int) = q at h2 h3
    exact ⟨q.toNat, by omega, by rw [IntWalk.wrap64_in _ (by omega)]; omega⟩)
  go_enter Try.func18, Try.ntmps18
  go_wp2
  go_ret
  obtain ⟨r, hr, he⟩ := HW.out
  exact ⟨⟨r, hr, ret_int he.symm⟩, rfl⟩
end Go.Proofs.Ythkpeddgcglpcaa
