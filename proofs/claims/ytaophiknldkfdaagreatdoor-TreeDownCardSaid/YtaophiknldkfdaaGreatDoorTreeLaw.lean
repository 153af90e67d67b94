/- TreeUp, TreeDown, TreeEnds return true. No condition. -/
import Derived.Test.YtaophiknldkfdaaGreatDoorTreeEa
import Derived.Test.YtaophiknldkfdaaGreatDoorTreeKK
namespace Go.Proofs.YtaophiknldkfdaaGreatDoor
open Go.RowKit

set_option maxRecDepth 100000 in
set_option maxHeartbeats 2000000 in
theorem treeUp_any (h00 : ∀ n, n < 40 → eachQ KK keyK 0 0 (5 + n) = true) (w : World) (c0 c1 c2 : Value) (pa : Option Addr) (na ca : Nat) (hna : na ≤ maxLen) :
    Calls Tryz.prog 4 #[.agg #[c0, c1, c2, .slice pa na ca]] w fun e w' => e = .returned (.bool true) ∧ Below w.heap.size w w' := by
  have HE := Lib.hid (fun w9 : World => each_any KK keyK 0 0 (by decide) (by decide) (fun k hk => keyK_is k hk) h00 w9 c0 c1 c2 pa na ca hna)
  go_enter Tryz.func4, Tryz.ntmps4
  go_wp2_with (first | (go_at_call 19; refine (HE.out _).mono ?_; (rintro e w' ⟨rfl, hb⟩; obtain ⟨n, es, rfl⟩ := below_more hb; clear hb)))
  go_ret
  exact ⟨rfl, by (repeat (first | exact Below.refl _ _ | assumption | refine nw_more ?_ _ _ | refine nw_alloc ?_ _ | refine nw_drew ?_ | refine nw_drewN ?_ _ | refine nw_set ?_ (by first | (simp; done) | (simp; omega) | omega) _))⟩
set_option maxRecDepth 100000 in
set_option maxHeartbeats 2000000 in
theorem treeDown_any (h10 : ∀ n, n < 40 → eachQ KK keyK 1 0 (5 + n) = true) (w : World) (c0 c1 c2 : Value) (pa : Option Addr) (na ca : Nat) (hna : na ≤ maxLen) :
    Calls Tryz.prog 5 #[.agg #[c0, c1, c2, .slice pa na ca]] w fun e w' => e = .returned (.bool true) ∧ Below w.heap.size w w' := by
  have HE := Lib.hid (fun w9 : World => each_any KK keyK 1 0 (by decide) (by decide) (fun k hk => keyK_is k hk) h10 w9 c0 c1 c2 pa na ca hna)
  go_enter Tryz.func5, Tryz.ntmps5
  go_wp2_with (first | (go_at_call 19; refine (HE.out _).mono ?_; (rintro e w' ⟨rfl, hb⟩; obtain ⟨n, es, rfl⟩ := below_more hb; clear hb)))
  go_ret
  exact ⟨rfl, by (repeat (first | exact Below.refl _ _ | assumption | refine nw_more ?_ _ _ | refine nw_alloc ?_ _ | refine nw_drew ?_ | refine nw_drewN ?_ _ | refine nw_set ?_ (by first | (simp; done) | (simp; omega) | omega) _))⟩
set_option maxRecDepth 100000 in
set_option maxHeartbeats 2000000 in
theorem treeEnds_any (h22 : ∀ n, n < 40 → eachQ KK keyK 2 2 (5 + n) = true) (h02 : ∀ n, n < 40 → eachQ KK keyK 0 2 (5 + n) = true) (h21 : ∀ n, n < 40 → eachQ KK keyK 2 1 (5 + n) = true) (w : World) (c0 c1 c2 : Value) (pa : Option Addr) (na ca : Nat) (hna : na ≤ maxLen) :
    Calls Tryz.prog 6 #[.agg #[c0, c1, c2, .slice pa na ca]] w fun e w' => e = .returned (.bool true) ∧ Below w.heap.size w w' := by
  have HE1 := Lib.hid (fun w9 : World => each_any KK keyK 2 2 (by decide) (by decide) (fun k hk => keyK_is k hk) h22 w9 c0 c1 c2 pa na ca hna)
  have HE2 := Lib.hid (fun w9 : World => each_any KK keyK 0 2 (by decide) (by decide) (fun k hk => keyK_is k hk) h02 w9 c0 c1 c2 pa na ca hna)
  have HE3 := Lib.hid (fun w9 : World => each_any KK keyK 2 1 (by decide) (by decide) (fun k hk => keyK_is k hk) h21 w9 c0 c1 c2 pa na ca hna)
  go_enter Tryz.func6, Tryz.ntmps6
  go_wp2_with fail
  refine (HE1.out _).mono ?_
  (rintro e w' ⟨rfl, hb⟩; obtain ⟨n, es, rfl⟩ := below_more hb; clear hb)
  go_wp2_with fail
  refine (HE2.out _).mono ?_
  (rintro e w' ⟨rfl, hb⟩; obtain ⟨n, es, rfl⟩ := below_more hb; clear hb)
  go_wp2_with fail
  refine (HE3.out _).mono ?_
  (rintro e w' ⟨rfl, hb⟩; obtain ⟨n, es, rfl⟩ := below_more hb; clear hb)
  go_wp2
  go_ret
  exact ⟨rfl, by (repeat (first | exact Below.refl _ _ | assumption | refine nw_more ?_ _ _ | refine nw_alloc ?_ _ | refine nw_drew ?_ | refine nw_drewN ?_ _ | refine nw_set ?_ (by first | (simp; done) | (simp; omega) | omega) _))⟩
end Go.Proofs.YtaophiknldkfdaaGreatDoor
