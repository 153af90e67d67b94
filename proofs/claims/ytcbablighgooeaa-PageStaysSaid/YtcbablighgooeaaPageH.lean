/- The weight of an argument of layer 5's laws: it returns. -/
import Derived.Test.YtcbablighgooeaaPageG
namespace Go.Proofs.Ytcbablighgooeaa
open Go.RowKit

/-- The slice v holds L strings S 0, S 1 .., in a block below the world's end. -/
def StrsBig (w : World) (v : Value) (L : Nat) (S : Nat → ByteArray) : Prop :=
  ∃ p cap, v = .slice p L cap ∧ L ≤ 140737488355328 ∧ ∀ i, i < L → ∃ b off, p = some ⟨b, off, none⟩ ∧ b < w.heap.size ∧ w.cell? ⟨b, off + i, none⟩ = some (.string (S i)) ∧ (S i).size ≤ 140737488355328
theorem StrsBig.below {w w' : World} {v : Value} {L : Nat} {S : Nat → ByteArray} (h : StrsBig w v L S) (hb : Below w.heap.size w w') : StrsBig w' v L S := by
  obtain ⟨p, cap, h1, h3, h4⟩ := h
  refine ⟨p, cap, h1, h3, fun i hi => ?_⟩
  obtain ⟨b, off, e, h2, h5, h6⟩ := h4 i hi
  exact ⟨b, off, e, Nat.lt_of_lt_of_le h2 hb.size, by rw [hb.cell (p := ⟨b, off + i, none⟩) h2]; exact h5, h6⟩
/-- An act: two numbers and a text. -/
structure Ac where
  d : Int
  n : Int
  s : ByteArray
/-- The slice v holds L acts, three cells each. -/
def ActsBig (w : World) (v : Value) (L : Nat) (A : Nat → Ac) : Prop :=
  ∃ p cap, v = .slice p L cap ∧ L ≤ 140737488355328 ∧ ∀ i, i < L → ∃ b off, p = some ⟨b, off, none⟩ ∧ b < w.heap.size ∧
    w.cell? ⟨b, off + i * 3, none⟩ = some (.int .i64 (A i).d) ∧ w.cell? ⟨b, off + i * 3 + 1, none⟩ = some (.int .i64 (A i).n) ∧ w.cell? ⟨b, off + i * 3 + 2, none⟩ = some (.string (A i).s) ∧ (A i).s.size ≤ 140737488355328
theorem ActsBig.below {w w' : World} {v : Value} {L : Nat} {A : Nat → Ac} (h : ActsBig w v L A) (hb : Below w.heap.size w w') : ActsBig w' v L A := by
  obtain ⟨p, cap, h1, h3, h4⟩ := h
  refine ⟨p, cap, h1, h3, fun i hi => ?_⟩
  obtain ⟨b, off, e, h2, h5⟩ := h4 i hi
  refine ⟨b, off, e, Nat.lt_of_lt_of_le h2 hb.size, ?_⟩
  rw [hb.cell (p := ⟨b, off + i * 3, none⟩) h2, hb.cell (p := ⟨b, off + i * 3 + 1, none⟩) h2, hb.cell (p := ⟨b, off + i * 3 + 2, none⟩) h2]; exact h5

def tw (L : Nat) (S : Nat → ByteArray) : Nat → Int → Int
  | 0, n => n
  | r + 1, n => if n < 1048576 then tw L S r (wrap64 (n + (S (L - (r + 1))).size)) else n
theorem tw_done (L : Nat) (S : Nat → ByteArray) (r : Nat) (n : Int) (h : ¬ n < 1048576) : tw L S r n = n := by
  cases r with
  | zero => rfl
  | succ r => rw [tw, if_neg h]
theorem tw_step (L : Nat) (S : Nat → ByteArray) (k : Nat) (n : Int) (hk : k < L) (h : n < 1048576) : tw L S (L - k) n = tw L S (L - (k + 1)) (wrap64 (n + (S k).size)) := by
  have e : L - k = (L - (k + 1)) + 1 := by omega
  have e2 : L - (L - (k + 1) + 1) = k := by omega
  rw [e, tw, if_pos h, e2]

set_option maxHeartbeats 400000 in
theorem texts_any (w : World) (v : Value) (L : Nat) (S : Nat → ByteArray) (h : StrsBig w v L S) :
    Calls Try.prog 14 #[v] w fun e w' => e = .returned (.int .i64 (tw L S L L)) ∧ w' = w := by
  obtain ⟨p, cap, rfl, h3, h4⟩ := h
  have H4 := Lib.hid h4
  clear h4
  go_enter Try.func14, Try.ntmps14
  go_wp2
  go_loop [3, 4] (fun n i => ∃ (m : Int) (k : Nat), k ≤ L ∧ Hid (tw L S (L - k) m = tw L S L L) ∧ n = .int .i64 m ∧ i = .int .i64 k) (fun _ i => L - (intOf i).toNat)
  case atStart => exact ⟨_, 0, Nat.zero_le _, rfl, rfl, rfl⟩
  case round =>
    obtain ⟨m, k, hk, HT, rfl, rfl⟩ := hrel
    by_cases hlt : k < L
    · by_cases hm : m < 1048576
      · obtain ⟨b, off, rfl, h2, hc, hsz⟩ := H4.out k hlt
        have HS := Lib.hid (tw_step L S k m hlt hm)
        generalize S k = s at *
        go_wp2
        go_round
        case rel => exact ⟨_, k + 1, by omega, by rw [← HT.out, HS.out]; rfl, rfl, by go_num⟩
        case measure => simp [intOf]; omega
      · have HD := Lib.hid (tw_done L S (L - k) m hm)
        go_wp2
        go_ret
        exact ⟨ret_int (by rw [← HT.out, HD.out]), rfl⟩
    · have e : k = L := by omega
      have HE : Hid (tw L S L L = m) := by have := HT.out; rw [e, Nat.sub_self] at this; exact this.symm
      clear e
      go_wp2
      go_ret
      exact ⟨ret_int HE.out.symm, rfl⟩

def SomeBool (w : World) (e : Ending) (w' : World) : Prop := ∃ b : Bool, e = .returned (.bool b) ∧ Below w.heap.size w w'
set_option maxHeartbeats 1000000 in
theorem heavy5_any (w : World) (sv av : Value) (pf : Option Addr) (nf cf : Nat) (L M : Nat) (S : Nat → ByteArray) (A : Nat → Ac) (hs : StrsBig w sv L S) (ha : ActsBig w av M A) :
    Calls Try.prog 4 #[.agg #[sv, .slice pf nf cf, av]] w (SomeBool w) := by
  have HS := Lib.hid hs
  obtain ⟨ps, cs, rfl, hsL, -⟩ := hs
  obtain ⟨p, cap, rfl, h3, h4⟩ := ha
  have H4 := Lib.hid h4
  clear h4
  go_enter Try.func4, Try.ntmps4
  go_wp2
  go_quiet ((go_at_call 14; exact Calls.quiet_of_same (texts_any _ _ L S (HS.out.below (by (repeat (first | exact Below.refl _ _ | assumption | refine nw_more ?_ _ _ | refine nw_alloc ?_ _ | refine nw_drew ?_ | refine nw_drewN ?_ _ | refine nw_set ?_ (by first | (simp; done) | (simp; omega) | omega) _)))))))
  go_wp2
  go_loopw [3, 4] (fun n i wr => ∃ (m : Int) (k d : Nat), k ≤ M ∧ n = .int .i64 m ∧ i = .int .i64 k ∧ wr = (w.alloc (Obj.cells #[.slice ps L cs, .slice pf nf cf, .slice p M cap] 28)).drewN d) (fun _ i _ => M - (intOf i).toNat)
  case atStart => exact ⟨_, 0, _, Nat.zero_le _, rfl, rfl, rfl⟩
  case round =>
    obtain ⟨m, k, d, hk, rfl, rfl, rfl⟩ := hrel
    by_cases hlt : k < M
    · by_cases hm : m < 1048576
      · obtain ⟨b, off, rfl, h2, hc, hc1, hc2, hz⟩ := H4.out k hlt
        have hL : Lt b w.heap.size := h2
        generalize A k = s at *
        go_wp2
        go_roundw
        case rel => exact ⟨_, k + 1, _, by omega, rfl, by go_num, rfl⟩
        case measure => simp [intOf]; omega
      · go_wp2
        go_ret
        exact ⟨_, rfl, by (repeat (first | exact Below.refl _ _ | assumption | refine nw_more ?_ _ _ | refine nw_alloc ?_ _ | refine nw_drew ?_ | refine nw_drewN ?_ _ | refine nw_set ?_ (by first | (simp; done) | (simp; omega) | omega) _))⟩
    · go_wp2
      go_ret
      exact ⟨_, rfl, by (repeat (first | exact Below.refl _ _ | assumption | refine nw_more ?_ _ _ | refine nw_alloc ?_ _ | refine nw_drew ?_ | refine nw_drewN ?_ _ | refine nw_set ?_ (by first | (simp; done) | (simp; omega) | omega) _))⟩
end Go.Proofs.Ytcbablighgooeaa
