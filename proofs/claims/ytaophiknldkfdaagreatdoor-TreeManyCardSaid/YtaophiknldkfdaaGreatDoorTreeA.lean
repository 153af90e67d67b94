/- Contracts of package tree: which rows and keys may be, which nodes there are. -/
import Derived.Test.YtaophiknldkfdaaGreatDoorRows
import Derived.Test.YtaophiknldkfdaaGreatDoorWPlain
import Derived.WalkKit
import Derived.WalkSpells
import Derived.WalkLawsBesides
import Derived.IntWalk
import Derived.Deep.LoopGhost
namespace Go.Proofs.YtaophiknldkfdaaGreatDoor
open Go.RowKit

theorem num6_any (n : Int) (w : World) :
    Calls Tryz.prog 12 #[.int .i64 n] w fun e w' => e = .returned (.int .i64 n) ∧ w = w' := by
  go_enter Tryz.func12, Tryz.ntmps12
  go_wp2
  go_ret
  exact ⟨rfl, rfl⟩
theorem mostNodes_any (w : World) :
    Calls Tryz.prog 29 #[] w fun e w' => e = .returned (.int .i64 200) ∧ w = w' := by
  go_enter Tryz.func29, Tryz.ntmps29
  go_wp2
  go_ret
  exact ⟨rfl, rfl⟩
theorem isRow_any (n : Int) (w : World) :
    Calls Tryz.prog 23 #[.int .i64 n] w fun e w' => e = .returned (.bool (rowB n)) ∧ w = w' := by
  by_cases h : 0 ≤ n
  · go_enter Tryz.func23, Tryz.ntmps23
    go_wp2
    go_ret
    exact ⟨ret_bool (by unfold rowB; rw [decide_eq_true h]; rfl), rfl⟩
  · go_enter Tryz.func23, Tryz.ntmps23
    go_wp2
    go_ret
    exact ⟨ret_bool (by unfold rowB; rw [decide_eq_false (by omega)]; rfl), rfl⟩

/-- What key.Key tells. -/
def keyE (b : Bool) : Int := if b then 0 else 1
def E1 : ByteArray := { data := #[] }
theorem size_zero {s : ByteArray} (h : s.size = 0) : s = E1 := by
  have : s.data.toList = [] := List.length_eq_zero_iff.1 h
  apply ByteArray.ext
  exact Array.toList_inj.1 this
set_option maxHeartbeats 400000 in
theorem key_any {α : Type} (K : Ks α) (k : α) (w : World) :
    Calls Tryz.prog 22 #[.string (K.s k)] w fun e w' => e = .returned (.int .i64 (keyE (K.ok k))) ∧ w = w' := by
  have hs := K.hsz k
  rw [← K.hok k]
  generalize K.s k = s at *
  by_cases h0 : s.size = 0
  · obtain rfl := size_zero h0
    unfold E1
    go_enter Tryz.func22, Tryz.ntmps22
    go_wp2
    go_ret
    exact ⟨rfl, rfl⟩
  · have hne : (s.toList == []) = false := by
      rw [Lib.toList_data]
      cases e : s.data.toList with
      | nil => exact absurd (congrArg List.length e) h0
      | cons a r => rfl
    by_cases h12 : s.size ≤ 12
    · go_enter Tryz.func22, Tryz.ntmps22
      go_wp2
      go_ret
      exact ⟨ret_int (by rw [decide_eq_true (by omega), decide_eq_true h12]; rfl), rfl⟩
    · go_enter Tryz.func22, Tryz.ntmps22
      go_wp2
      go_ret
      exact ⟨ret_int (by rw [decide_eq_true (by omega), decide_eq_false h12]; rfl), rfl⟩

theorem isNode_any (i : Int) (u : Value) (p : Option Addr) (n c : Nat) (r : Int) (w : World) :
    Calls Tryz.prog 59 #[.agg #[.slice p n c, .int .i64 r, u], .int .i64 i] w fun e w' => e = .returned (.bool (nodeB n i)) ∧ Below w.heap.size w w' := by
  by_cases h : 0 ≤ i
  · go_enter Tryz.func59, Tryz.ntmps59
    go_wp2
    go_ret
    exact ⟨ret_bool (by unfold nodeB; rw [decide_eq_true h]; rfl), by (repeat (first | exact Below.refl _ _ | assumption | refine nw_more ?_ _ _ | refine nw_alloc ?_ _ | refine nw_drew ?_ | refine nw_drewN ?_ _ | refine nw_set ?_ (by first | (simp; done) | (simp; omega) | omega) _))⟩
  · go_enter Tryz.func59, Tryz.ntmps59
    go_wp2
    go_ret
    exact ⟨ret_bool (by unfold nodeB; rw [decide_eq_false (by omega)]; rfl), by (repeat (first | exact Below.refl _ _ | assumption | refine nw_more ?_ _ _ | refine nw_alloc ?_ _ | refine nw_drew ?_ | refine nw_drewN ?_ _ | refine nw_set ?_ (by first | (simp; done) | (simp; omega) | omega) _))⟩
theorem isZero_any {α : Type} (n : Nd α) (p1 p2 p3 : Option Addr) (c1 c2 c3 : Nat) (w : World) :
    Calls Tryz.prog 60 #[.agg #[.slice p1 n.keys.length c1, .slice p2 n.rows.length c2, .slice p3 n.kids.length c3, .bool n.leaf]] w fun e w' => e = .returned (.bool (zeroB n)) ∧ Below w.heap.size w w' := by
  obtain ⟨ks, rs, cs, l⟩ := n
  unfold zeroB
  dsimp only
  generalize ks.length = a
  generalize rs.length = b
  generalize cs.length = c
  by_cases h1 : a = 0
  · subst h1
    by_cases h2 : b = 0
    · subst h2
      by_cases h3 : c = 0
      · subst h3
        go_enter Tryz.func60, Tryz.ntmps60
        go_wp2
        go_ret
        exact ⟨ret_bool (by simp), by (repeat (first | exact Below.refl _ _ | assumption | refine nw_more ?_ _ _ | refine nw_alloc ?_ _ | refine nw_drew ?_ | refine nw_drewN ?_ _ | refine nw_set ?_ (by first | (simp; done) | (simp; omega) | omega) _))⟩
      · have h3' : ¬ (c : Int) = 0 := by omega
        go_enter Tryz.func60, Tryz.ntmps60
        go_wp2
        go_ret
        exact ⟨ret_bool (by simp [h3]), by (repeat (first | exact Below.refl _ _ | assumption | refine nw_more ?_ _ _ | refine nw_alloc ?_ _ | refine nw_drew ?_ | refine nw_drewN ?_ _ | refine nw_set ?_ (by first | (simp; done) | (simp; omega) | omega) _))⟩
    · have h2' : ¬ (b : Int) = 0 := by omega
      go_enter Tryz.func60, Tryz.ntmps60
      go_wp2
      go_ret
      exact ⟨ret_bool (by simp [h2]), by (repeat (first | exact Below.refl _ _ | assumption | refine nw_more ?_ _ _ | refine nw_alloc ?_ _ | refine nw_drew ?_ | refine nw_drewN ?_ _ | refine nw_set ?_ (by first | (simp; done) | (simp; omega) | omega) _))⟩
  · have h1' : ¬ (a : Int) = 0 := by omega
    go_enter Tryz.func60, Tryz.ntmps60
    go_wp2
    go_ret
    exact ⟨ret_bool (by simp [h1]), by (repeat (first | exact Below.refl _ _ | assumption | refine nw_more ?_ _ _ | refine nw_alloc ?_ _ | refine nw_drew ?_ | refine nw_drewN ?_ _ | refine nw_set ?_ (by first | (simp; done) | (simp; omega) | omega) _))⟩

set_option maxHeartbeats 400000 in
theorem areRows_any (B : Nat) (w : World) (v : Value) (l : List Int) (h : IntsIn B w v l) :
    Calls Tryz.prog 89 #[v] w fun e w' => e = .returned (.bool (areRowsB l)) ∧ w = w' := by
  obtain ⟨p, cap, rfl, hl, ht⟩ := h.at
  have H := Lib.hid ht
  clear h ht
  go_enter Tryz.func89, Tryz.ntmps89
  go_wp2
  go_loop [7] (fun i => ∃ k : Nat, k ≤ l.length ∧ Hid (areRowsB (l.drop k) = areRowsB l) ∧ i = .int .i64 k) (fun i => l.length - (intOf i).toNat)
  case atStart => exact ⟨0, Nat.zero_le _, rfl, rfl⟩
  case round =>
    obtain ⟨k, hk, HT, rfl⟩ := hrel
    by_cases hlt : k < l.length
    · obtain ⟨b, off, x, rfl, hb, hc, hd, -⟩ := H.out k hlt
      have HT1 : Hid ((rowB x && areRowsB (l.drop (k + 1))) = areRowsB l) := Lib.hid (by have := HT.out; rw [hd, areRowsB] at this; exact this)
      clear hd HT
      cases hx : rowB x
      · have HE : Hid (false = areRowsB l) := Lib.hid (by have := HT1.out; rw [hx] at this; exact this)
        have HX := Lib.hid hx
        clear hx HT1
        go_wp2_with (first | (go_at_call 23; refine (isRow_any _ _).mono ?_; rw [HX.out]; rintro e w' ⟨rfl, rfl⟩))
        go_ret
        exact ⟨ret_bool HE.out, rfl⟩
      · have HE : Hid (areRowsB (l.drop (k + 1)) = areRowsB l) := Lib.hid (by have := HT1.out; rw [hx] at this; exact this)
        have HX := Lib.hid hx
        clear hx HT1
        go_wp2_with (first | (go_at_call 23; refine (isRow_any _ _).mono ?_; rw [HX.out]; rintro e w' ⟨rfl, rfl⟩))
        go_round
        case rel => exact ⟨k + 1, by omega, HE, by go_num⟩
        case measure => simp [intOf]; omega
    · have e : k = l.length := by omega
      have HE : Hid (true = areRowsB l) := Lib.hid (by have := HT.out; rw [e, List.drop_length] at this; exact this)
      clear e HT
      go_wp2
      go_ret
      exact ⟨ret_bool HE.out, rfl⟩

set_option maxHeartbeats 400000 in
theorem areKeys_any {α : Type} (K : Ks α) (B : Nat) (w : World) (v : Value) (l : List α) (h : KeysIn K B w v l) :
    Calls Tryz.prog 88 #[v] w fun e w' => e = .returned (.bool (areKeysB K l)) ∧ w = w' := by
  obtain ⟨p, cap, rfl, hl, ht⟩ := h.at
  have H := Lib.hid ht
  clear h ht
  go_enter Tryz.func88, Tryz.ntmps88
  go_wp2
  go_loop [7] (fun i => ∃ k : Nat, k ≤ l.length ∧ Hid (areKeysB K (l.drop k) = areKeysB K l) ∧ i = .int .i64 k) (fun i => l.length - (intOf i).toNat)
  case atStart => exact ⟨0, Nat.zero_le _, rfl, rfl⟩
  case round =>
    obtain ⟨k, hk, HT, rfl⟩ := hrel
    by_cases hlt : k < l.length
    · obtain ⟨b, off, x, rfl, hb, hc, hd, -⟩ := H.out k hlt
      have HT1 : Hid ((K.ok x && areKeysB K (l.drop (k + 1))) = areKeysB K l) := Lib.hid (by have := HT.out; rw [hd, areKeysB] at this; exact this)
      clear hd HT
      cases hx : K.ok x
      · have HE : Hid (false = areKeysB K l) := Lib.hid (by have := HT1.out; rw [hx] at this; exact this)
        have HX := Lib.hid hx
        clear hx HT1
        go_wp2_with (first | (go_at_call 22; refine (key_any K x _).mono ?_; rw [HX.out]; rintro e w' ⟨rfl, rfl⟩))
        go_ret
        exact ⟨ret_bool HE.out, rfl⟩
      · have HE : Hid (areKeysB K (l.drop (k + 1)) = areKeysB K l) := Lib.hid (by have := HT1.out; rw [hx] at this; exact this)
        have HX := Lib.hid hx
        clear hx HT1
        go_wp2_with (first | (go_at_call 22; refine (key_any K x _).mono ?_; rw [HX.out]; rintro e w' ⟨rfl, rfl⟩))
        go_round
        case rel => exact ⟨k + 1, by omega, HE, by go_num⟩
        case measure => simp [intOf]; omega
    · have e : k = l.length := by omega
      have HE : Hid (true = areKeysB K l) := Lib.hid (by have := HT.out; rw [e, List.drop_length] at this; exact this)
      clear e HT
      go_wp2
      go_ret
      exact ⟨ret_bool HE.out, rfl⟩
end Go.Proofs.YtaophiknldkfdaaGreatDoor
