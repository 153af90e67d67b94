/- Sectors, as plain functions on lists; strings in memory, many or few. No condition. -/
import Derived.Test.YtaelgappabecgaaCoPlain
import Derived.Test.YtaelgappabecgaaPMem
namespace Go.Proofs.Ytaelgappabecgaa
open Go.RowKit

/-- How many parts so many bytes have. -/
def nParts (l : List UInt8) : Nat := (l.length + 19) / 20
def part (l : List UInt8) (i : Nat) : List UInt8 := (l.drop (20 * i)).take 20
/-- A sector. -/
def secL (run n i : Nat) (last : Bool) (p : List UInt8) : List UInt8 := encN run 4 ++ encN n 4 ++ encN i 2 ++ encN (if last then 1 else 0) 1 ++ (encN p.length 1 ++ p) ++ List.replicate (20 - p.length) 0
def secB (run n i : Nat) (last : Bool) (p : List UInt8) : ByteArray := toB (secL run n i last p)
/-- The i-th of the sectors of bytes. -/
def secAt (l : List UInt8) (run n i : Nat) : ByteArray := secB run n i (decide (i + 1 = nParts l)) (part l i)
def secs (l : List UInt8) (run n : Nat) : List ByteArray := (List.range (nParts l)).map (secAt l run n)
theorem part_len (l : List UInt8) (i : Nat) : (part l i).length ≤ 20 := by
  unfold part; rw [List.length_take]; omega
theorem secL_len (run n i : Nat) (last : Bool) (p : List UInt8) (h : p.length ≤ 20) : (secL run n i last p).length = 32 := by
  simp only [secL, List.length_append, encN_length, List.length_replicate]; omega
theorem secs_len (l : List UInt8) (run n : Nat) : (secs l run n).length = nParts l := by simp [secs]
theorem secs_at (l : List UInt8) (run n i : Nat) (h : i < nParts l) : (secs l run n)[i]? = some (secAt l run n i) := by simp [secs, h]
theorem secs_size {l : List UInt8} {run n : Nat} {s : ByteArray} (h : s ∈ secs l run n) : s.size = 32 := by
  unfold secs at h
  obtain ⟨i, -, rfl⟩ := List.mem_map.1 h
  unfold secAt secB
  rw [toB_size, secL_len _ _ _ _ _ (part_len l i)]
/-- The parts up to the one that is marked as the last one, how many; from part 'at' on, behind acc. -/
def joinP : Nat → Nat → List ByteArray → List UInt8 → List UInt8 × Nat
  | 0, _, _, _ => ([], 0)
  | _ + 1, _, [], _ => ([], 0)
  | f + 1, at1, x :: r, acc =>
    if x.size = 32 then
      (if x.data.toList.getD 10 0 = 0 then joinP f (at1 + 1) r (acc ++ (x.data.toList.drop 12).take (min (x.data.toList.getD 11 0).toNat 20))
      else (acc ++ (x.data.toList.drop 12).take (min (x.data.toList.getD 11 0).toNat 20), at1 + 1))
    else ([], 0)
/-- The record of which all sectors lie at the begin, how many they are. -/
def firstP (S : List ByteArray) (run n : Nat) : Option ((Int × List Wr) × Nat) :=
  match takeP (joinP 116 0 S []).1 with
  | none => none
  | some r => if S.take (joinP 116 0 S []).2 = secs (rBytes r.1 r.2) run n then some (r, (joinP 116 0 S []).2) else none
def readP : Nat → List ByteArray → Nat → Nat → List (Int × List Wr) × Nat
  | 0, _, _, _ => ([], 0)
  | f + 1, S, run, n => if n ≤ 1073741824 then (match firstP S run n with
    | none => ([], 0)
    | some (r, m) => (r :: (readP f (S.drop m) run (n + 1)).1, m + (readP f (S.drop m) run (n + 1)).2)) else ([], 0)

/-- Strings in memory, as many as an argument may hold. -/
def SsAt (w : World) (v : Value) (S : List ByteArray) : Prop :=
  S.length ≤ 140737488355328 ∧ (∀ s ∈ S, s.size ≤ 140737488355328) ∧ ∃ p cap, v = .slice p S.length cap ∧ S.length ≤ cap ∧ ∀ i, i < S.length → ∃ b off, p = some ⟨b, off, none⟩ ∧ b < w.heap.size ∧ w.cell? ⟨b, off + i, none⟩ = some (.string (S.getD i E0))
theorem SsAt.below {w w' : World} {v : Value} {S : List ByteArray} (h : SsAt w v S) (hb : Below w.heap.size w w') : SsAt w' v S := by
  obtain ⟨h0, hz, p, cap, h1, h3, h4⟩ := h
  refine ⟨h0, hz, p, cap, h1, h3, fun i hi => ?_⟩
  obtain ⟨b, off, e, h2, h5⟩ := h4 i hi
  exact ⟨b, off, e, Nat.lt_of_lt_of_le h2 hb.size, by rw [hb.cell (p := ⟨b, off + i, none⟩) h2]; exact h5⟩
theorem SsAt.slice {w : World} {v : Value} {S : List ByteArray} (h : SsAt w v S) : ∃ p cap, v = .slice p S.length cap ∧ S.length ≤ cap := by
  obtain ⟨-, -, p, cap, e, h, -⟩ := h; exact ⟨p, cap, e, h⟩
theorem SsAt.nil (w : World) (p : Option Addr) (c : Nat) : SsAt w (.slice p 0 c) [] := ⟨by simp, by simp, p, c, rfl, Nat.zero_le _, fun i hi => absurd hi (Nat.not_lt_zero _)⟩
theorem SsAt.at {w : World} {v : Value} {S : List ByteArray} (h : SsAt w v S) : ∃ p cap, v = .slice p S.length cap ∧ S.length ≤ 140737488355328 ∧ S.length ≤ cap ∧ ∀ k, k < S.length → ∃ b off s, p = some ⟨b, off, none⟩ ∧ Lt b w.heap.size ∧ w.cell? ⟨b, off + k, none⟩ = some (.string s) ∧ S.drop k = s :: S.drop (k + 1) ∧ S[k]? = some s ∧ s.size ≤ 140737488355328 := by
  obtain ⟨h0, hz, p, cap, h1, h3, h4⟩ := h
  refine ⟨p, cap, h1, h0, h3, fun k hk => ?_⟩
  obtain ⟨b, off, e, h2, h5⟩ := h4 k hk
  have hx : S[k]? = some (S.getD k E0) := by simp [List.getD, hk]
  exact ⟨b, off, _, e, h2, h5, drop_strs S k hk, hx, hz _ (List.mem_of_getElem? hx)⟩
theorem SsAt.form {w : World} {v : Value} {S : List ByteArray} (h : SsAt w v S) : (S = [] ∧ ∃ p cap, v = .slice p 0 cap) ∨
    ∃ b off cap, v = .slice (some ⟨b, off, none⟩) S.length cap ∧ 0 < S.length ∧ S.length ≤ cap ∧ b < w.heap.size ∧ ∀ j, j < S.length → w.cell? ⟨b, off + j, none⟩ = some (.string (S.getD j E0)) := by
  obtain ⟨h0, hz, p, cap, h1, h3, h4⟩ := h
  by_cases hl : S = []
  · subst hl; exact .inl ⟨rfl, p, cap, h1⟩
  · have hp : 0 < S.length := List.length_pos_iff.2 hl
    obtain ⟨b, off, e, h2, -⟩ := h4 0 hp
    refine .inr ⟨b, off, cap, by rw [h1, e], hp, h3, h2, fun j hj => ?_⟩
    obtain ⟨b', off', e', h2', h5'⟩ := h4 j hj
    rw [e] at e'
    simp only [Option.some.injEq, Addr.mk.injEq] at e'
    obtain ⟨rfl, rfl, -⟩ := e'
    exact h5'
/-- The first ones alone; all but the first ones. -/
theorem SsAt.take {w : World} {p : Option Addr} {n cap : Nat} {S : List ByteArray} (h : SsAt w (.slice p n cap) S) (m : Nat) (hm : m ≤ S.length) : SsAt w (.slice p m cap) (S.take m) := by
  obtain ⟨h0, hz, p', cap', h1, h3, h4⟩ := h
  simp only [Value.slice.injEq] at h1
  obtain ⟨rfl, rfl, rfl⟩ := h1
  have hl : (S.take m).length = m := by rw [List.length_take]; omega
  refine ⟨by omega, fun x hx => hz x (List.mem_of_mem_take hx), p, cap, by rw [hl], by omega, fun i hi => ?_⟩
  obtain ⟨b, off, e, h2, h5⟩ := h4 i (by omega)
  exact ⟨b, off, e, h2, by rw [getD_take _ _ _ _ (by omega)]; exact h5⟩
theorem getD_drop_s (S : List ByteArray) (m i : Nat) : (S.drop m).getD i E0 = S.getD (m + i) E0 := by
  simp [List.getD, List.getElem?_drop]
theorem SsAt.drop {w : World} {b off n cap : Nat} {S : List ByteArray} (h : SsAt w (.slice (some ⟨b, off, none⟩) n cap) S) (m : Nat) (hm : m ≤ S.length) : SsAt w (.slice (some ⟨b, off + m, none⟩) (n - m) (cap - m)) (S.drop m) := by
  obtain ⟨h0, hz, p', cap', h1, h3, h4⟩ := h
  simp only [Value.slice.injEq] at h1
  obtain ⟨rfl, rfl, rfl⟩ := h1
  have hl : (S.drop m).length = S.length - m := List.length_drop
  refine ⟨by omega, fun x hx => hz x (List.mem_of_mem_drop hx), _, _, by rw [hl], by omega, fun i hi => ?_⟩
  obtain ⟨b', off', e, h2, h5⟩ := h4 (m + i) (by omega)
  simp only [Option.some.injEq, Addr.mk.injEq] at e
  obtain ⟨rfl, rfl, -⟩ := e
  exact ⟨b, off + m, rfl, h2, by rw [getD_drop_s, Nat.add_assoc]; exact h5⟩
/-- A row of strings that the call owns. -/
def OwnS (B : Nat) (w : World) (v : Value) (S : List ByteArray) : Prop := w.ownsRow B 9 1 v S.length (S.map Value.string)
theorem OwnS.below {B : Nat} {w w' : World} {u : Value} {S : List ByteArray} (h : OwnS B w u S) (hb : Below w.heap.size w w') : OwnS B w' u S := own_below h hb
theorem OwnS.nil (B : Nat) (w : World) : OwnS B w (.slice none 0 0) [] := World.ownsRow_nil _ _ _ _
theorem OwnS.form {B : Nat} {w : World} {u : Value} {l : List ByteArray} (ho : OwnS B w u l) : ∃ q qc, u = .slice q l.length qc := by
  rcases ho.2 with ⟨rfl, h0⟩ | ⟨g, c, cur, rfl, -⟩
  · exact ⟨none, 0, by rw [h0]⟩
  · exact ⟨_, _, rfl⟩
theorem OwnS.snoc {B : Nat} {w : World} {v : Value} {l : List ByteArray} {y : ByteArray} (h : w.ownsRow B 9 1 v (l.length + 1) (l.map Value.string ++ [.string y])) : OwnS B w v (l ++ [y]) := by
  unfold OwnS; rw [List.length_append, List.map_append]; exact h
theorem OwnS.at {w : World} {B : Nat} {v : Value} {S : List ByteArray} (h : OwnS B w v S) (hl : S.length ≤ 140737488355328) (hz : ∀ s ∈ S, s.size ≤ 140737488355328) : SsAt w v S := by
  refine ⟨hl, hz, ?_⟩
  rcases h.2 with ⟨rfl, h0⟩ | ⟨g, cap, cur, rfl, hb, hg, hc, hm, hs, ht⟩
  · exact ⟨none, 0, by rw [h0], by omega, fun i hi => by omega⟩
  · refine ⟨some ⟨g, 0, none⟩, cap, rfl, hc, fun i hi => ⟨g, 0, rfl, (Array.getElem?_eq_some_iff.1 hg).1, ?_⟩⟩
    rw [Nat.zero_add]
    have := h.cellAt i (by omega)
    rw [this]
    simp [List.getD, hi]
end Go.Proofs.Ytaelgappabecgaa
