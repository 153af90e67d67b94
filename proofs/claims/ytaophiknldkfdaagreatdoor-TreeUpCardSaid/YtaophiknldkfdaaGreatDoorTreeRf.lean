/- Contracts of the page's own helpers: In, Num, Between, Key, Within, EqNode, Itoa. -/
import Derived.Test.YtaophiknldkfdaaGreatDoorTreeMi
import Derived.Test.YtaophiknldkfdaaGreatDoorTreeJ2
namespace Go.Proofs.YtaophiknldkfdaaGreatDoor
open Go.RowKit

theorem slice_own6 {w : World} {B : Nat} {e : TypeId} {s : Nat} {v : Value} {n : Nat} {xs : List Value} (h : w.ownsRow B e s v n xs) (hn : 0 < n) : ∃ q c, v = .slice q n c := by
  rcases h.2 with ⟨-, h0⟩ | ⟨g, c, cur, rfl, -⟩
  · omega
  · exact ⟨_, _, rfl⟩
/-- What is known of a world, and no more. -/
theorem wcut {c : Code} {P : Program} {Q : Exit → Act → World → Prop} {a : Act} {w : World} (R : World → Prop) (hR : R w) (h : ∀ W, R W → c.wp P Q a W) : c.wp P Q a w := h w hR
def idxFrom (x : Int) : Nat → List Int → Int
  | _, [] => -1
  | k, n :: r => if n = x then (k : Int) else idxFrom x (k + 1) r
def idxL (l : List Int) (x : Int) : Int := idxFrom x 0 l
theorem idxFrom_has (x : Int) (k : Nat) (l : List Int) : 0 ≤ idxFrom x k l ↔ x ∈ l := by
  induction l generalizing k with
  | nil => simp [idxFrom]
  | cons n r ih =>
    rw [idxFrom]
    split
    · rename_i h; subst h; simp
    · rename_i h; rw [ih, List.mem_cons]; exact ⟨.inr, fun h2 => h2.elim (fun e => absurd e.symm h) id⟩
theorem has_iff6 {l : List Int} {x : Int} : has l x = true ↔ x ∈ l := by simp [has]
theorem idx_has {l : List Int} {x : Int} (h : has l x = true) : 0 ≤ idxL l x := (idxFrom_has x 0 l).2 (has_iff6.1 h)
theorem idx_not {l : List Int} {x : Int} (h : has l x = false) : idxL l x < 0 := by
  have h1 : ¬ 0 ≤ idxL l x := fun h2 => by rw [has_iff6.2 ((idxFrom_has x 0 l).1 h2)] at h; cases h
  omega

set_option maxHeartbeats 400000 in
theorem in_any (w : World) (v : Value) (l : List Int) (x : Int) (h : IntsAt w v l) :
    Calls Tryz.prog 35 #[v, .int .i64 x] w fun e w' => e = .returned (.int .i64 (idxL l x)) ∧ w = w' := by
  obtain ⟨p, cap, rfl, hl, ht⟩ := h.at
  have H := Lib.hid ht
  clear h ht
  go_enter Tryz.func35, Tryz.ntmps35
  go_wp2
  go_loop [5] (fun i => ∃ k : Nat, k ≤ l.length ∧ Hid (idxFrom x k (l.drop k) = idxL l x) ∧ i = .int .i64 k) (fun i => l.length - (intOf i).toNat)
  case atStart => exact ⟨0, Nat.zero_le _, rfl, rfl⟩
  case round =>
    obtain ⟨k, hk, HT, rfl⟩ := hrel
    by_cases hlt : k < l.length
    · obtain ⟨b, off, n, rfl, hb, hc, hd, -⟩ := H.out k hlt
      have HT1 : Hid ((if n = x then (k : Int) else idxFrom x (k + 1) (l.drop (k + 1))) = idxL l x) := by have := HT.out; rw [hd, idxFrom] at this; exact this
      clear hb hd HT
      by_cases hn : n = x
      · have HE : Hid ((k : Int) = idxL l x) := by have := HT1.out; rw [if_pos hn] at this; exact this
        go_wp2
        go_ret
        exact ⟨ret_int HE.out, rfl⟩
      · have HE : Hid (idxFrom x (k + 1) (l.drop (k + 1)) = idxL l x) := by have := HT1.out; rw [if_neg hn] at this; exact this
        go_wp2
        go_round
        case rel => exact ⟨k + 1, by omega, HE.out, by go_num⟩
        case measure => simp [intOf]; omega
    · have e : k = l.length := by omega
      have HE : Hid (-1 = idxL l x) := by have := HT.out; rw [e, List.drop_length] at this; exact this
      clear e
      go_wp2
      go_ret
      exact ⟨ret_int HE.out, rfl⟩

def numB (n m : Int) : Bool := decide (0 ≤ n) && decide (n ≤ m)
set_option maxHeartbeats 400000 in
theorem numB_any (w : World) (n m : Int) :
    Calls Tryz.prog 32 #[.int .i64 n, .int .i64 m] w fun e w' => e = .returned (.bool (numB n m)) ∧ w = w' := by
  by_cases h : 0 ≤ n
  · go_enter Tryz.func32, Tryz.ntmps32
    go_wp2
    go_ret
    exact ⟨ret_bool (by unfold numB; rw [decide_eq_true h]; rfl), rfl⟩
  · go_enter Tryz.func32, Tryz.ntmps32
    go_wp2
    go_ret
    exact ⟨ret_bool (by unfold numB; rw [decide_eq_false (by omega)]; rfl), rfl⟩

set_option maxHeartbeats 400000 in
theorem between_any (n low high : Int) (w : World) :
    Calls Tryz.prog 86 #[.int .i64 n, .int .i64 low, .int .i64 high] w fun e w' => e = .returned (.bool (decide (low ≤ n) && decide (n ≤ high))) ∧ w = w' := by
  by_cases h : low ≤ n
  all_goals
    go_enter Tryz.func86, Tryz.ntmps86
    go_wp2
    go_ret
    exact ⟨ret_bool (by simp [h] <;> omega), rfl⟩
set_option maxHeartbeats 400000 in
theorem rkeyK_any {α : Type} (K : Ks α) (k : α) (w : World) :
    Calls Tryz.prog 74 #[.string (K.s k)] w fun e w' => e = .returned (.bool (K.ok k)) ∧ w = w' := by
  have hs := K.hsz k
  rw [← K.hok k]
  generalize K.s k = s at *
  go_enter Tryz.func74, Tryz.ntmps74
  go_wp2_with (first | (go_at_call 86; refine (between_any _ _ _ _).mono ?_; rintro e w' ⟨rfl, rfl⟩))
  go_ret
  exact ⟨ret_bool (by rw [Bool.eq_iff_iff]; simp; omega), rfl⟩
set_option maxHeartbeats 400000 in
theorem within_any (i : Int) (n : Nat) (w : World) (hn : 0 < n) (hn2 : n < 1000) :
    Calls Tryz.prog 8 #[.int .i64 i, .int .i64 n] w fun e w' => (∃ r : Nat, r < n ∧ e = .returned (.int .i64 r)) ∧ w = w' := by
  have HW : Hid (∃ r : Nat, r < n ∧ (r : Int) = wrap64 ((IntKind.u64.wrap i).tmod n)) := Lib.hid (by
    have h0 : (0 : Int) ≤ IntKind.u64.wrap i := by rw [IntKind.wrap_u64]; omega
    have h1 : (IntKind.u64.wrap i).tmod n = (IntKind.u64.wrap i) % n := Int.tmod_eq_emod_of_nonneg h0
    have h2 : 0 ≤ (IntKind.u64.wrap i) % (n : Int) := Int.emod_nonneg _ (by omega)
    have h3 : (IntKind.u64.wrap i) % (n : Int) < n := Int.emod_lt_of_pos _ (by omega)
    rw [h1]
    generalize (IntKind.u64.wrap i) % (n : Int) = q at h2 h3
    exact ⟨q.toNat, by omega, by rw [IntWalk.wrap64_in _ (by omega)]; omega⟩)
  go_enter Tryz.func8, Tryz.ntmps8
  go_wp2
  go_ret
  obtain ⟨r, hr, he⟩ := HW.out
  exact ⟨⟨r, hr, ret_int he.symm⟩, rfl⟩

set_option maxHeartbeats 400000 in
theorem itoa_any (i : Nat) (hi : i < 100) (w : World) :
    Calls Tryz.prog 75 #[.int .i64 i] w fun e w' => (∃ s, e = .returned (.string s)) ∧ w = w' := by
  go_enter Tryz.func75, Tryz.ntmps75
  go_wp2_with (first | (go_at_call 87; refine (Tryz.internal_strconv_Itoa_small i hi _).mono ?_; rintro e w' ⟨rfl, rfl⟩))
  go_ret
  exact ⟨⟨_, rfl⟩, rfl⟩
set_option maxHeartbeats 400000 in
theorem eqStrings0_any (w : World) (p q : Option Addr) (c d : Nat) :
    Calls Tryz.prog 56 #[.slice p 0 c, .slice q 0 d] w fun e w' => e = .returned (.bool true) ∧ w = w' := by
  go_enter Tryz.func56, Tryz.ntmps56
  go_wp2
  go_loop [5] (fun i => i = .int .i64 0) (fun _ => 0)
  case atStart => rfl
  case round =>
    subst hrel
    go_wp2
    go_ret
    exact ⟨rfl, rfl⟩
set_option maxHeartbeats 400000 in
theorem eqNumbers0_any (w : World) (p q : Option Addr) (c d : Nat) :
    Calls Tryz.prog 57 #[.slice p 0 c, .slice q 0 d] w fun e w' => e = .returned (.bool true) ∧ w = w' := by
  go_enter Tryz.func57, Tryz.ntmps57
  go_wp2
  go_loop [5] (fun i => i = .int .i64 0) (fun _ => 0)
  case atStart => rfl
  case round =>
    subst hrel
    go_wp2
    go_ret
    exact ⟨rfl, rfl⟩
set_option maxHeartbeats 400000 in
theorem eqNode0_any (w : World) (p q r p2 q2 r2 : Option Addr) (c d f c2 d2 f2 : Nat) :
    Calls Tryz.prog 33 #[.agg #[.slice p 0 c, .slice q 0 d, .slice r 0 f, .bool false], .agg #[.slice p2 0 c2, .slice q2 0 d2, .slice r2 0 f2, .bool false]] w fun e w' => e = .returned (.bool true) ∧ Below w.heap.size w w' := by
  go_enter Tryz.func33, Tryz.ntmps33
  go_wp2_with (first
    | (go_at_call 56; refine (eqStrings0_any _ _ _ _ _).mono ?_; rintro e w' ⟨rfl, rfl⟩)
    | (go_at_call 57; refine (eqNumbers0_any _ _ _ _ _).mono ?_; rintro e w' ⟨rfl, rfl⟩))
  go_ret
  exact ⟨rfl, by (repeat (first | exact Below.refl _ _ | assumption | refine nw_more ?_ _ _ | refine nw_alloc ?_ _ | refine nw_drew ?_ | refine nw_drewN ?_ _ | refine nw_set ?_ (by first | (simp; done) | (simp; omega) | omega) _))⟩
end Go.Proofs.YtaophiknldkfdaaGreatDoor
