/- Slices of strings in memory, as lists; what blocks from a number on hold. No condition. -/
import Derived.Test.YtgaalahlkllkaaaWMem
namespace Go.Proofs.Ytgaalahlkllkaaa
open Go.RowKit

def E0 : ByteArray := { data := #[] }
/-- The blocks from B on stay as they are. -/
def Stays (B : Nat) (w w' : World) : Prop := w.heap.size ≤ w'.heap.size ∧ ∀ k, B ≤ k → k < w.heap.size → w'.heap[k]? = w.heap[k]?
theorem Stays.of {B : Nat} {w w' : World} (h : Below w.heap.size w w') : Stays B w w' := ⟨h.size, fun k _ hk => h.block k hk⟩
theorem Stays.set {B : Nat} {w : World} {a : Addr} (h : a.block < B) (u : Value) : Stays B w (w.setCell a u) :=
  ⟨by simp, fun k hk _ => heap_setCell_other w a k u (fun e => by omega)⟩
theorem Stays.trans {B : Nat} {w w1 w2 : World} (h : Stays B w w1) (h2 : Stays B w1 w2) : Stays B w w2 :=
  ⟨Nat.le_trans h.1 h2.1, fun k hk hk2 => (h2.2 k hk (Nat.lt_of_lt_of_le hk2 h.1)).trans (h.2 k hk hk2)⟩
theorem Stays.cell {B : Nat} {w w' : World} (h : Stays B w w') {b i : Nat} (hb : B ≤ b) (hl : b < w.heap.size) : w'.cell? ⟨b, i, none⟩ = w.cell? ⟨b, i, none⟩ :=
  World.cell?_of_block (h.2 b hb hl)

/-- The slice v holds the strings S, in a block from B on. -/
def StrsIn (B : Nat) (w : World) (v : Value) (S : List ByteArray) : Prop :=
  S.length ≤ 1000000 ∧ (∀ s ∈ S, s.size ≤ 140737488355328) ∧ ∃ p cap, v = .slice p S.length cap ∧ S.length ≤ cap ∧ ∀ i, i < S.length → ∃ b off, p = some ⟨b, off, none⟩ ∧ B ≤ b ∧ b < w.heap.size ∧ w.cell? ⟨b, off + i, none⟩ = some (.string (S.getD i E0))
/-- The slice v holds the numbers l, in a block from B on. -/
def IntsIn (B : Nat) (w : World) (v : Value) (l : List Int) : Prop :=
  l.length ≤ 1000000 ∧ ∃ p cap, v = .slice p l.length cap ∧ l.length ≤ cap ∧ ∀ i, i < l.length → ∃ b off, p = some ⟨b, off, none⟩ ∧ B ≤ b ∧ b < w.heap.size ∧ w.cell? ⟨b, off + i, none⟩ = some (.int .i64 (l.getD i 0))

theorem StrsIn.stays {B : Nat} {w w' : World} {v : Value} {S : List ByteArray} (h : StrsIn B w v S) (hs : Stays B w w') : StrsIn B w' v S := by
  obtain ⟨h0, hz, p, cap, h1, h3, h4⟩ := h
  refine ⟨h0, hz, p, cap, h1, h3, fun i hi => ?_⟩
  obtain ⟨b, off, e, hB, h2, h5⟩ := h4 i hi
  exact ⟨b, off, e, hB, Nat.lt_of_lt_of_le h2 hs.1, by rw [hs.cell hB h2]; exact h5⟩
theorem IntsIn.stays {B : Nat} {w w' : World} {v : Value} {l : List Int} (h : IntsIn B w v l) (hs : Stays B w w') : IntsIn B w' v l := by
  obtain ⟨h0, p, cap, h1, h3, h4⟩ := h
  refine ⟨h0, p, cap, h1, h3, fun i hi => ?_⟩
  obtain ⟨b, off, e, hB, h2, h5⟩ := h4 i hi
  exact ⟨b, off, e, hB, Nat.lt_of_lt_of_le h2 hs.1, by rw [hs.cell hB h2]; exact h5⟩
theorem StrsIn.below {B : Nat} {w w' : World} {v : Value} {S : List ByteArray} (h : StrsIn B w v S) (hb : Below w.heap.size w w') : StrsIn B w' v S := h.stays (Stays.of hb)
theorem IntsIn.below {B : Nat} {w w' : World} {v : Value} {l : List Int} (h : IntsIn B w v l) (hb : Below w.heap.size w w') : IntsIn B w' v l := h.stays (Stays.of hb)
theorem StrsIn.mono {B B' : Nat} {w : World} {v : Value} {S : List ByteArray} (h : StrsIn B w v S) (hB : B' ≤ B) : StrsIn B' w v S := by
  obtain ⟨h0, hz, p, cap, h1, h3, h4⟩ := h
  refine ⟨h0, hz, p, cap, h1, h3, fun i hi => ?_⟩
  obtain ⟨b, off, e, hb, r⟩ := h4 i hi
  exact ⟨b, off, e, by omega, r⟩
theorem IntsIn.mono {B B' : Nat} {w : World} {v : Value} {l : List Int} (h : IntsIn B w v l) (hB : B' ≤ B) : IntsIn B' w v l := by
  obtain ⟨h0, p, cap, h1, h3, h4⟩ := h
  refine ⟨h0, p, cap, h1, h3, fun i hi => ?_⟩
  obtain ⟨b, off, e, hb, r⟩ := h4 i hi
  exact ⟨b, off, e, by omega, r⟩
theorem IntsIn.toAt {B : Nat} {w : World} {v : Value} {l : List Int} (h : IntsIn B w v l) : IntsAt w v l := by
  obtain ⟨h0, p, cap, h1, h3, h4⟩ := h
  refine ⟨h0, p, cap, h1, h3, fun i hi => ?_⟩
  obtain ⟨b, off, e, -, h2, h5⟩ := h4 i hi
  exact ⟨b, off, e, h2, h5⟩
theorem StrsIn.nil (B : Nat) (w : World) : StrsIn B w (.slice none 0 0) [] := ⟨by simp, by simp, none, 0, rfl, Nat.le_refl _, fun i hi => absurd hi (Nat.not_lt_zero _)⟩
theorem IntsIn.nil (B : Nat) (w : World) : IntsIn B w (.slice none 0 0) [] := ⟨by simp, none, 0, rfl, Nat.le_refl _, fun i hi => absurd hi (Nat.not_lt_zero _)⟩

theorem IntsIn.zero (B : Nat) (w : World) (p : Option Addr) (c : Nat) : IntsIn B w (.slice p 0 c) [] := ⟨by simp, p, c, rfl, Nat.zero_le _, fun i hi => absurd hi (Nat.not_lt_zero _)⟩
/-- None of them, or in another block. -/
def ApartI (u1 u2 : Value) (l : List Int) : Prop := l = [] ∨ u2.ownBlock ≠ u1.ownBlock
theorem IntsIn.set {B : Nat} {w : World} {v : Value} {l : List Int} (h : IntsIn B w v l) {a : Addr} (ha : l = [] ∨ v.ownBlock ≠ some a.block) (u : Value) : IntsIn B (w.setCell a u) v l := by
  obtain ⟨h0, p, cap, h1, h3, h4⟩ := h
  refine ⟨h0, p, cap, h1, h3, fun i hi => ?_⟩
  obtain ⟨b, off, e, hB, h2, h5⟩ := h4 i hi
  have hne : b ≠ a.block := by
    rcases ha with ha | ha
    · subst ha; simp at hi
    · rw [h1, e] at ha; simpa [Value.ownBlock] using ha
  exact ⟨b, off, e, hB, by simpa using h2, (World.cell?_of_block (heap_setCell_other w a b u (fun e => hne (by simp [e])))).trans h5⟩
theorem drop_strs (l : List ByteArray) (k : Nat) (h : k < l.length) : l.drop k = l.getD k E0 :: l.drop (k + 1) := by
  rw [List.drop_eq_getElem_cons h]; simp [List.getD, h]
theorem StrsIn.at {B : Nat} {w : World} {v : Value} {S : List ByteArray} (h : StrsIn B w v S) : ∃ p cap, v = .slice p S.length cap ∧ S.length ≤ 1000000 ∧ ∀ k, k < S.length → ∃ b off s, p = some ⟨b, off, none⟩ ∧ Lt b w.heap.size ∧ w.cell? ⟨b, off + k, none⟩ = some (.string s) ∧ S.drop k = s :: S.drop (k + 1) ∧ S[k]? = some s ∧ s.size ≤ 140737488355328 := by
  obtain ⟨h0, hz, p, cap, h1, h3, h4⟩ := h
  refine ⟨p, cap, h1, h0, fun k hk => ?_⟩
  obtain ⟨b, off, e, -, h2, h5⟩ := h4 k hk
  have hx : S[k]? = some (S.getD k E0) := by simp [List.getD, hk]
  exact ⟨b, off, _, e, h2, h5, drop_strs S k hk, hx, hz _ (List.mem_of_getElem? hx)⟩
theorem StrsIn.slice {B : Nat} {w : World} {v : Value} {S : List ByteArray} (h : StrsIn B w v S) : ∃ p cap, v = .slice p S.length cap ∧ S.length ≤ cap := by
  obtain ⟨-, -, p, cap, e, h, -⟩ := h; exact ⟨p, cap, e, h⟩
theorem IntsIn.slice {B : Nat} {w : World} {v : Value} {l : List Int} (h : IntsIn B w v l) : ∃ p cap, v = .slice p l.length cap ∧ l.length ≤ cap := by
  obtain ⟨-, p, cap, e, h, -⟩ := h; exact ⟨p, cap, e, h⟩
theorem StrsIn.form {B : Nat} {w : World} {v : Value} {S : List ByteArray} (h : StrsIn B w v S) : (S = [] ∧ ∃ p cap, v = .slice p 0 cap) ∨
    ∃ b off cap, v = .slice (some ⟨b, off, none⟩) S.length cap ∧ 0 < S.length ∧ S.length ≤ cap ∧ S.length ≤ 1000000 ∧ b < w.heap.size ∧ ∀ j, j < S.length → w.cell? ⟨b, off + j, none⟩ = some (.string (S.getD j E0)) := by
  obtain ⟨h0, hz, p, cap, h1, h3, h4⟩ := h
  by_cases hl : S = []
  · subst hl; exact .inl ⟨rfl, p, cap, h1⟩
  · have hp : 0 < S.length := List.length_pos_iff.2 hl
    obtain ⟨b, off, e, -, h2, -⟩ := h4 0 hp
    refine .inr ⟨b, off, cap, by rw [h1, e], hp, h3, h0, h2, fun j hj => ?_⟩
    obtain ⟨b', off', e', -, h2', h5'⟩ := h4 j hj
    rw [e] at e'
    simp only [Option.some.injEq, Addr.mk.injEq] at e'
    obtain ⟨rfl, rfl, -⟩ := e'
    exact h5'
theorem StrsIn.own {w : World} {B : Nat} {e : TypeId} {v : Value} {S : List ByteArray} (h : w.ownsRow B e 1 v S.length (S.map Value.string)) (hl : S.length ≤ 1000000) (hz : ∀ s ∈ S, s.size ≤ 140737488355328) : StrsIn B w v S := by
  refine ⟨hl, hz, ?_⟩
  rcases h.2 with ⟨rfl, h0⟩ | ⟨g, cap, cur, rfl, hb, hg, hc, hm, hs, ht⟩
  · exact ⟨none, 0, by rw [h0], by omega, fun i hi => by omega⟩
  · refine ⟨some ⟨g, 0, none⟩, cap, rfl, hc, fun i hi => ⟨g, 0, rfl, hb, (Array.getElem?_eq_some_iff.1 hg).1, ?_⟩⟩
    rw [Nat.zero_add]
    have := h.cellAt i (by omega)
    rw [this]
    simp [List.getD, hi]
theorem IntsIn.own {w : World} {B : Nat} {e : TypeId} {v : Value} {l : List Int} (h : w.ownsRow B e 1 v l.length (l.map (Value.int .i64))) (hl : l.length ≤ 1000000) : IntsIn B w v l := by
  refine ⟨hl, ?_⟩
  rcases h.2 with ⟨rfl, h0⟩ | ⟨g, cap, cur, rfl, hb, hg, hc, hm, hs, ht⟩
  · exact ⟨none, 0, by rw [h0], by omega, fun i hi => by omega⟩
  · refine ⟨some ⟨g, 0, none⟩, cap, rfl, hc, fun i hi => ⟨g, 0, rfl, hb, (Array.getElem?_eq_some_iff.1 hg).1, ?_⟩⟩
    rw [Nat.zero_add]
    have := h.cellAt i (by omega)
    rw [this]
    simp [List.getD, hi]

theorem getD_take {α : Type} (l : List α) (s i : Nat) (d : α) (h : i < s) : (l.take s).getD i d = l.getD i d := by
  simp [List.getD, h]
/-- The first ones alone. -/
theorem StrsIn.take {B : Nat} {w : World} {p : Option Addr} {n cap : Nat} {S : List ByteArray} (h : StrsIn B w (.slice p n cap) S) (s : Nat) (hs : s ≤ S.length) : StrsIn B w (.slice p s cap) (S.take s) := by
  obtain ⟨h0, hz, p', cap', h1, h3, h4⟩ := h
  simp only [Value.slice.injEq] at h1
  obtain ⟨rfl, rfl, rfl⟩ := h1
  have hl : (S.take s).length = s := by rw [List.length_take]; omega
  refine ⟨by omega, fun x hx => hz x (List.mem_of_mem_take hx), p, cap, by rw [hl], by omega, fun i hi => ?_⟩
  obtain ⟨b, off, e, hB, h2, h5⟩ := h4 i (by omega)
  exact ⟨b, off, e, hB, h2, by rw [getD_take _ _ _ _ (by omega)]; exact h5⟩
theorem IntsIn.take {B : Nat} {w : World} {p : Option Addr} {n cap : Nat} {l : List Int} (h : IntsIn B w (.slice p n cap) l) (s : Nat) (hs : s ≤ l.length) : IntsIn B w (.slice p s cap) (l.take s) := by
  obtain ⟨h0, p', cap', h1, h3, h4⟩ := h
  simp only [Value.slice.injEq] at h1
  obtain ⟨rfl, rfl, rfl⟩ := h1
  have hl : (l.take s).length = s := by rw [List.length_take]; omega
  refine ⟨by omega, p, cap, by rw [hl], by omega, fun i hi => ?_⟩
  obtain ⟨b, off, e, hB, h2, h5⟩ := h4 i (by omega)
  exact ⟨b, off, e, hB, h2, by rw [getD_take _ _ _ _ (by omega)]; exact h5⟩
/-- All but the first. -/
theorem IntsIn.tail {B : Nat} {w : World} {g n cap : Nat} {x : Int} {l : List Int} (h : IntsIn B w (.slice (some ⟨g, 0, none⟩) n cap) (x :: l)) : IntsIn B w (.slice (some ⟨g, 1, none⟩) l.length (cap - 1)) l := by
  obtain ⟨h0, p', cap', h1, h3, h4⟩ := h
  simp only [Value.slice.injEq] at h1
  obtain ⟨rfl, rfl, rfl⟩ := h1
  simp only [List.length_cons] at h0 h3 h4
  refine ⟨by omega, _, _, rfl, by omega, fun i hi => ?_⟩
  obtain ⟨b, off, e, hB, h2, h5⟩ := h4 (i + 1) (by omega)
  simp only [Option.some.injEq, Addr.mk.injEq, and_true] at e
  obtain ⟨rfl, rfl⟩ := e
  exact ⟨g, 1, rfl, hB, h2, by rw [show 1 + i = 0 + (i + 1) by omega, h5]; rfl⟩
end Go.Proofs.Ytgaalahlkllkaaa
