/- slices.Backward over a path: its contract. -/
import Derived.Test.YtaophiknldkfdaaGreatDoorTreeI
import Derived.Test.YtaophiknldkfdaaGreatDoorTPar
import Derived.Test.YtaophiknldkfdaaGreatDoorTreeJ2
import Derived.RangeFuncNested
import Derived.RangeFuncBound
import Derived.RangeFuncCalls
import Derived.RangeFuncLeaves
import Derived.WalkKit
import Derived.OwnWalkIn
import Derived.TacticsInMore
import Derived.LoopNIn
import Derived.LoopIn
namespace Go.Proofs.YtaophiknldkfdaaGreatDoor
open Go.RowKit

attribute [local go_sem] Oper.semAt_some

/-- The blocks that a round leaves alone. -/
def KeepB (b1 b2 : Nat) (W W' : World) : Prop := W'.heap[b1]? = W.heap[b1]? ∧ W'.heap[b2]? = W.heap[b2]?
theorem KeepB.refl (b1 b2 : Nat) (W : World) : KeepB b1 b2 W W := ⟨rfl, rfl⟩
theorem KeepB.trans {b1 b2 : Nat} {A B C : World} (h : KeepB b1 b2 A B) (k : KeepB b1 b2 B C) : KeepB b1 b2 A C := ⟨k.1.trans h.1, k.2.trans h.2⟩
theorem KeepB.put {b1 b2 m : Nat} (h1 : b1 < m) (h2 : b2 < m) (W : World) (l : Nat) (o o' : Obj) (hl : m ≤ l) (_ : W.heap[l]? = some o) (_ : o.isCells = false) (_ : o.isWalk = false) : KeepB b1 b2 W (W.putObj l o') :=
  ⟨(grownBy_putObj' W l o').block b1 (by have := (Array.getElem?_eq_some_iff.1 ‹W.heap[l]? = some o›).1; omega) (by intro e; cases e; omega), (grownBy_putObj' W l o').block b2 (by have := (Array.getElem?_eq_some_iff.1 ‹W.heap[l]? = some o›).1; omega) (by intro e; cases e; omega)⟩
/-- The k-th place as it comes: its index, and what it is. -/
def backAt (zs : List (Nat × Nat)) (k : Nat) : Nat × Nat := zs.getD (zs.length - 1 - k) (0, 0)
def encB (zs : List (Nat × Nat)) (k : Nat) : Array Value := #[.int .i64 ((zs.length - 1 - k : Nat) : Int), .agg #[.int .i64 ((backAt zs k).1 : Int), .int .i64 ((backAt zs k).2 : Int)]]
theorem back_rev (zs : List (Nat × Nat)) (k : Nat) (hk : k < zs.length) : zs.reverse.drop k = backAt zs k :: zs.reverse.drop (k + 1) := by
  rw [List.drop_eq_getElem_cons (by simpa using hk)]
  congr 1
  rw [List.getElem_reverse]
  unfold backAt
  rw [List.getD, List.getElem?_eq_getElem (by omega)]
  rfl
theorem cell_keep {W W' : World} {b j : Nat} (h : W'.heap[b]? = W.heap[b]?) : W'.cell? ⟨b, j, none⟩ = W.cell? ⟨b, j, none⟩ := by
  unfold World.cell?
  simp only [h]

set_option maxRecDepth 100000 in
set_option maxHeartbeats 2000000 in
theorem back1_in (F : Fence) (n : Nat) (hf : F.fn 70) (hro : F.round = none) (hn : 1 ≤ n) (l Bs pb cap : Nat) (zs : List (Nat × Nat)) (hz : zs.length ≤ 1000000) (hz0 : 0 < zs.length) (J : Nat → World → Prop)
    (hY : ∀ k W, k < zs.length → J k W → YieldAt F (n - 1) Tryz.prog l (encB zs k) W fun e W' => e = .returned (.bool true) ∧ J (k + 1) W' ∧ KeepB Bs pb W W')
    (W : World) (hBs : W.cell? ⟨Bs, 0, none⟩ = some (.slice (some ⟨pb, 0, none⟩) zs.length cap)) (hc : ∀ j, j < zs.length → W.cell? ⟨pb, j * 2, none⟩ = some (.int .i64 (zs.getD j (0, 0)).1) ∧ W.cell? ⟨pb, j * 2 + 1, none⟩ = some (.int .i64 (zs.getD j (0, 0)).2)) (h0 : J 0 W) :
    CallsIn F n Tryz.prog 70 #[.func (.yield l) #[] #[], .pointer (some ⟨Bs, 0, none⟩)] W fun e W' => (∃ v, e = .returned v) ∧ J zs.length W' := by
  have hw1 : IntKind.i64.wrap ((zs.length : Int) - 1) = (zs.length : Int) - 1 := IntWalk.i64_in _ (by omega)
  refine callsIn_of_wp Tryz.func70 rfl hf ?_ hro
  simp only [Tryz.ntmps70, List.size_toArray, List.length_cons, List.length_nil, Nat.reduceAdd, Nat.reduceSub, Array.replicate_succ, Array.replicate_zero, List.push_toArray, List.append_toArray, List.nil_append, List.cons_append]
  gi_wp2
  gi_loopw [3] (fun i wr => ∃ m k : Nat, m + k = zs.length ∧ ((∃ m', m = m' + 1 ∧ i = .int .i64 m') ∨ (m = 0 ∧ i = .int .i64 (-1))) ∧ J k wr ∧ KeepB Bs pb W wr)
    (fun i _ => (intOf i + 1).toNat)
  case atStart => exact ⟨zs.length, 0, by omega, .inl ⟨zs.length - 1, by omega, by go_num⟩, h0, KeepB.refl _ _ _⟩
  case round =>
    obtain ⟨m, k, hmk, hi, hJs, hnx⟩ := hrel
    rcases hi with ⟨m', rfl, rfl⟩ | ⟨rfl, rfl⟩
    · have hb1 : wr.cell? ⟨Bs, 0, none⟩ = some (.slice (some ⟨pb, 0, none⟩) zs.length cap) := (cell_keep hnx.1).trans hBs
      have hc1 : wr.cell? ⟨pb, m' * 2, none⟩ = some (.int .i64 (zs.getD m' (0, 0)).1) := (cell_keep hnx.2).trans (hc m' (by omega)).1
      have hc2 : wr.cell? ⟨pb, m' * 2 + 1, none⟩ = some (.int .i64 (zs.getD m' (0, 0)).2) := (cell_keep hnx.2).trans (hc m' (by omega)).2
      have hbk : zs.length - 1 - k = m' := by omega
      obtain ⟨fn, tmps, assign, body, hy, hR⟩ := hY k wr (by omega) hJs
      unfold encB backAt at hy
      rw [hbk] at hy
      clear hbk
      generalize zs.getD m' (0, 0) = z at *
      have hlt : (m' : Int) < (zs.length : Int) := by omega
      have hw2 : IntKind.i64.wrap ((m' : Int) - 1) = (m' : Int) - 1 := IntWalk.i64_in _ (by omega)
      gi_wp2
      refine hR.mono ?_
      rintro e W3 ⟨rfl, hJ3, hk3⟩
      gi_wp2
      go_roundw
      case rel =>
        refine ⟨m', k + 1, by omega, ?_, hJ3, hnx.trans hk3⟩
        cases m' with
        | zero => exact .inr ⟨rfl, by go_num⟩
        | succ m'' => exact .inl ⟨m'', rfl, by go_num⟩
      case measure => simp [intOf]
    · obtain rfl : k = zs.length := by omega
      gi_wp2
      go_end0
      exact ⟨⟨_, rfl⟩, hJs⟩
theorem back1_nil_in (F : Fence) (n : Nat) (hf : F.fn 70) (hro : F.round = none) (l Bs : Nat) (J : Nat → World → Prop) (W : World) (hBs : W.cell? ⟨Bs, 0, none⟩ = some (.slice none 0 0)) (h0 : J 0 W) :
    CallsIn F n Tryz.prog 70 #[.func (.yield l) #[] #[], .pointer (some ⟨Bs, 0, none⟩)] W fun e W' => (∃ v, e = .returned v) ∧ J 0 W' := by
  refine callsIn_of_wp Tryz.func70 rfl hf ?_ hro
  simp only [Tryz.ntmps70, List.size_toArray, List.length_cons, List.length_nil, Nat.reduceAdd, Nat.reduceSub, Array.replicate_succ, Array.replicate_zero, List.push_toArray, List.append_toArray, List.nil_append, List.cons_append]
  gi_wp2
  gi_loopw [3] (fun i wr => i = .int .i64 (-1) ∧ J 0 wr) (fun _ _ => 0)
  case atStart => exact ⟨by go_num, h0⟩
  case round =>
    obtain ⟨rfl, hJs⟩ := hrel
    gi_wp2
    go_end0
    exact ⟨⟨_, rfl⟩, hJs⟩
theorem back1_empty_in (F : Fence) (n : Nat) (hf : F.fn 70) (hro : F.round = none) (l Bs g cap : Nat) (J : Nat → World → Prop) (W : World) (hBs : W.cell? ⟨Bs, 0, none⟩ = some (.slice (some ⟨g, 0, none⟩) 0 cap)) (h0 : J 0 W) :
    CallsIn F n Tryz.prog 70 #[.func (.yield l) #[] #[], .pointer (some ⟨Bs, 0, none⟩)] W fun e W' => (∃ v, e = .returned v) ∧ J 0 W' := by
  refine callsIn_of_wp Tryz.func70 rfl hf ?_ hro
  simp only [Tryz.ntmps70, List.size_toArray, List.length_cons, List.length_nil, Nat.reduceAdd, Nat.reduceSub, Array.replicate_succ, Array.replicate_zero, List.push_toArray, List.append_toArray, List.nil_append, List.cons_append]
  gi_wp2
  gi_loopw [3] (fun i wr => i = .int .i64 (-1) ∧ J 0 wr) (fun _ _ => 0)
  case atStart => exact ⟨by go_num, h0⟩
  case round =>
    obtain ⟨rfl, hJs⟩ := hrel
    gi_wp2
    go_end0
    exact ⟨⟨_, rfl⟩, hJs⟩
theorem placeCells_get (l : List (Nat × Nat)) : ∀ j, j < l.length → (placeCells l)[j * 2]? = some (.int .i64 (l.getD j (0, 0)).1) ∧ (placeCells l)[j * 2 + 1]? = some (.int .i64 (l.getD j (0, 0)).2) := by
  induction l with
  | nil => intro j hj; simp at hj
  | cons x r ih =>
    intro j hj
    cases j with
    | zero => simp [placeCells]
    | succ j =>
      have := ih j (by simpa using hj)
      rw [show (j + 1) * 2 = j * 2 + 1 + 1 by omega]
      simpa [placeCells] using this
/-- Backward of a path goes, from the last place to the first. -/
theorem back_goes (F : Fence) (n : Nat) (hf : F.fn 70) (hro : F.round = none) (hn : 1 ≤ n) (B Bs pb : Nat) (pv : Value) (zs : List (Nat × Nat)) (hz : zs.length ≤ 1000000) (w : World) (hBs : Bs < w.heap.size) (hc : w.cell? ⟨Bs, 0, none⟩ = some pv) (hp : OwnPl B w pv zs) (hpb : ∀ g, pv.ownBlock = some g → g = pb) :
    Goes F n Tryz.prog 70 #[.pointer (some ⟨Bs, 0, none⟩)] (encB zs) (KeepB Bs pb) zs.length w := by
  intro l J W hW hY h0
  have hc' := (hW.cell (p := ⟨Bs, 0, none⟩) hBs).trans hc
  have hp' : OwnPl B W pv zs := own_below hp hW
  rcases hp'.2 with ⟨rfl, e0⟩ | ⟨g, cap, cur, rfl, -, -⟩
  · obtain rfl := List.length_eq_zero_iff.1 e0
    exact back1_nil_in F n hf hro l Bs J W hc' h0
  · obtain rfl := hpb g rfl
    by_cases hz0 : 0 < zs.length
    · refine back1_in F n hf hro hn l Bs g cap zs hz hz0 J hY W hc' (fun j hj => ?_) h0
      obtain ⟨a0, a1⟩ := placeCells_get zs j hj
      have hcl := World.ownsRow.cells hp' (g := g) rfl
      have q0 := hcl _ _ a0
      have q1 := hcl _ _ a1
      rw [cell_add, Nat.zero_add] at q0 q1
      exact ⟨q0, q1⟩
    · obtain rfl := List.length_eq_zero_iff.1 (by omega : zs.length = 0)
      exact back1_empty_in F n hf hro l Bs g cap J W hc' h0
set_option maxHeartbeats 1000000 in
theorem back_any (w : World) (p : Option Addr) (len cap : Nat) :
    Calls Tryz.prog 48 #[.slice p len cap] w fun e w' => e = .returned (.func (.func 70) #[] #[.pointer (some ⟨w.heap.size, 0, none⟩)]) ∧ w' = w.alloc (.cells #[.slice p len cap] 57) := by
  go_enter Tryz.func48, Tryz.ntmps48
  go_wp2
  go_ret
  exact ⟨rfl, rfl⟩
end Go.Proofs.YtaophiknldkfdaaGreatDoor
