/- Contracts: chains held against each other, what wakes. No condition. -/
import Derived.Test.YtkjejmikcgjnaaaChG
namespace Go.Proofs.Ytkjejmikcgjnaaa
open Go.RowKit

theorem v_neq_self (c : Int) (s : ByteArray) (g : Bool) (w : World) : (binOp .neq 37 (.agg #[.int .i64 c, .string s, .bool g]) (.agg #[.int .i64 c, .string s, .bool g])).run Try.prog w = .ok (.bool false) w := by
  simp [go_sem]
attribute [go_sem] v_neq_self

set_option maxHeartbeats 1000000 in
theorem eqVersions_same (w : World) (v1 v2 : Value) (l : List Vr) (h1 : VsAt w v1 l) (h2 : VsAt w v2 l) :
    Calls Try.prog 24 #[v1, v2] w fun e w' => e = .returned (.bool true) ∧ Below w.heap.size w w' := by
  obtain ⟨p1, c1, rfl, hl, hc1, ht1⟩ := h1.at
  obtain ⟨p2, c2, rfl, -, hc2, ht2⟩ := h2.at
  have H1 := Lib.hid ht1
  have H2 := Lib.hid ht2
  clear h1 h2 ht1 ht2
  go_enter Try.func24, Try.ntmps24
  go_wp2
  go_loopg [5] (l.length + 1) (fun g s5 wr => (∃ n es, wr = more w n es) ∧ ∃ k : Nat, k ≤ l.length ∧ g + k = l.length + 1 ∧ s5 = .int .i64 k)
  case atStart => exact ⟨below_more (Below.refl _ _), 0, Nat.zero_le _, rfl, rfl⟩
  case round =>
    obtain ⟨⟨n, es, rfl⟩, k, hk, hg, rfl⟩ := hrel
    obtain rfl : gk = l.length + 1 - k := by omega
    clear hg
    by_cases hlt : k < l.length
    · obtain ⟨b, off, x, rfl, hb, a0, a1, a2, -, hx, -⟩ := H1.out k hlt
      obtain ⟨b', off', x', rfl, hb', d0, d1, d2, -, hx', -⟩ := H2.out k hlt
      obtain rfl : x' = x := by rw [hx] at hx'; exact (Option.some.inj hx').symm
      obtain ⟨c, s, g⟩ := x'
      dsimp only at a0 a1 a2 d0 d1 d2
      have hlt2 : (k : Int) < (l.length : Int) := by omega
      clear H1 H2 hx hx'
      go_wp2_with fail
      (refine wp_region_quiet_more (by kernel_rfl) (by kernel_rfl) ?_; (repeat (first | go_big_quiet_skip | quiet_step ((first | fail)))); refine wpQuiet_nil ?_; intro _ hw'; obtain ⟨⟨nq, esq⟩, hw''⟩ := hw'; subst hw''; dsimp only)
      go_wp2
      go_roundg (l.length + 1 - k - 1)
      case measure => omega
      case rel => exact ⟨below_more (by (repeat (first | exact Below.refl _ _ | assumption | refine nw_more ?_ _ _ | refine nw_alloc ?_ _ | refine nw_drew ?_ | refine nw_drewN ?_ _ | refine nw_set ?_ (by first | (simp; done) | (simp; omega) | omega) _))), k + 1, by omega, by omega, by go_num⟩
    · clear H1 H2
      go_wp2
      go_ret
      exact ⟨rfl, by (repeat (first | exact Below.refl _ _ | assumption | refine nw_more ?_ _ _ | refine nw_alloc ?_ _ | refine nw_drew ?_ | refine nw_drewN ?_ _ | refine nw_set ?_ (by first | (simp; done) | (simp; omega) | omega) _))⟩
set_option maxHeartbeats 1000000 in
theorem eqChain_same (w : World) (k : ByteArray) (v1 v2 : Value) (l : List Vr) (h1 : VsAt w v1 l) (h2 : VsAt w v2 l) :
    Calls Try.prog 11 #[.agg #[.string k, v1], .agg #[.string k, v2]] w fun e w' => e = .returned (.bool true) ∧ Below w.heap.size w w' := by
  obtain ⟨p1, c1, rfl, hc1⟩ := h1.slice
  obtain ⟨p2, c2, rfl, hc2⟩ := h2.slice
  have H1 := Lib.hid h1
  have H2 := Lib.hid h2
  clear h1 h2
  go_enter Try.func11, Try.ntmps11
  go_wp2_with (first | (go_at_call 24; refine (eqVersions_same _ _ _ l (H1.out.below (by (repeat (first | exact Below.refl _ _ | assumption | refine nw_more ?_ _ _ | refine nw_alloc ?_ _ | refine nw_drew ?_ | refine nw_drewN ?_ _ | refine nw_set ?_ (by first | (simp; done) | (simp; omega) | omega) _)))) (H2.out.below (by (repeat (first | exact Below.refl _ _ | assumption | refine nw_more ?_ _ _ | refine nw_alloc ?_ _ | refine nw_drew ?_ | refine nw_drewN ?_ _ | refine nw_set ?_ (by first | (simp; done) | (simp; omega) | omega) _))))).mono ?_; (rintro e w' ⟨rfl, hb⟩; obtain ⟨n, es, rfl⟩ := below_more hb; clear hb)))
  go_ret
  exact ⟨rfl, by (repeat (first | exact Below.refl _ _ | assumption | refine nw_more ?_ _ _ | refine nw_alloc ?_ _ | refine nw_drew ?_ | refine nw_drewN ?_ _ | refine nw_set ?_ (by first | (simp; done) | (simp; omega) | omega) _))⟩

set_option maxHeartbeats 2000000 in
theorem wakes8_any (w : World) :
    Calls Try.prog 12 #[] w fun e w' => e = .returned (.bool true) ∧ Below w.heap.size w w' := by
  go_enter Try.func12, Try.ntmps12
  go_wp2_with fail
  refine (new_any _ _ 2 _ false (by decide) (by decide)).mono ?_
  rw [show chOk _ _ = true by decide]
  rintro e w' ⟨u, rfl, hu, -, hb⟩
  have HU := Lib.hid hu
  obtain ⟨p, cap, rfl, hcap⟩ := hu.slice
  obtain ⟨n, es, rfl⟩ := below_more hb
  clear hb hu
  go_wp2_with fail
  refine (at_any _ _ _ _ 3 (by decide) (HU.out.below (by (repeat (first | exact Below.refl _ _ | assumption | refine nw_more ?_ _ _ | refine nw_alloc ?_ _ | refine nw_drew ?_ | refine nw_drewN ?_ _ | refine nw_set ?_ (by first | (simp; done) | (simp; omega) | omega) _))))).mono ?_
  rw [show chOk _ _ = true by decide, show atV 3 _ = some ⟨2, { data := #[118] }, false⟩ from rfl, atTwo_some]
  (rintro e w' ⟨rfl, hb⟩; obtain ⟨n, es, rfl⟩ := below_more hb; clear hb)
  go_wp2_with fail
  refine (at_any _ _ _ _ 1 (by decide) (HU.out.below (by (repeat (first | exact Below.refl _ _ | assumption | refine nw_more ?_ _ _ | refine nw_alloc ?_ _ | refine nw_drew ?_ | refine nw_drewN ?_ _ | refine nw_set ?_ (by first | (simp; done) | (simp; omega) | omega) _))))).mono ?_
  rw [show chOk _ _ = true by decide, show atV 1 _ = none from rfl, atTwo_none]
  (rintro e w' ⟨rfl, hb⟩; obtain ⟨n, es, rfl⟩ := below_more hb; clear hb)
  go_wp2_with (first | (go_at_call 9; refine (num8_any _ _).mono ?_; rintro e w' ⟨rfl, rfl⟩))
  go_ret
  exact ⟨rfl, by (repeat (first | exact Below.refl _ _ | assumption | refine nw_more ?_ _ _ | refine nw_alloc ?_ _ | refine nw_drew ?_ | refine nw_drewN ?_ _ | refine nw_set ?_ (by first | (simp; done) | (simp; omega) | omega) _))⟩
end Go.Proofs.Ytkjejmikcgjnaaa
