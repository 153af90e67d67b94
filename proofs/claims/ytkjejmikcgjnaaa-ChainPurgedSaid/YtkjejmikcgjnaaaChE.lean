/- Contract: a chain with one version more. No condition. -/
import Derived.Test.YtkjejmikcgjnaaaChD
import Derived.Test.YtkjejmikcgjnaaaTSeq
import Derived.Test.YtkjejmikcgjnaaaTBlc
import Derived.Great.BuildSlice
namespace Go.Proofs.Ytkjejmikcgjnaaa
open Go.RowKit

theorem info_version : (Try.prog.info? 37).map (fun i => (i.zero, i.size, i.bytes)) = some (some (.agg #[.int .i64 0, .string { data := #[] }, .bool false]), 3, 32) := by kernel_rfl
theorem info_parts {t : TypeId} {z : Value} {s b : Nat} (h : (Try.prog.info? t).map (fun i => (i.zero, i.size, i.bytes)) = some (some z, s, b)) : ∃ i, Try.prog.info? t = some i ∧ i.zero = some z ∧ i.size = s ∧ i.bytes = b := by
  cases e : Try.prog.info? t with
  | none => rw [e] at h; cases h
  | some i =>
    rw [e] at h
    simp only [Option.map_some, Option.some.injEq, Prod.mk.injEq] at h
    exact ⟨i, rfl, h.1, h.2.1, h.2.2⟩

theorem Blc.newAt (w : World) {b : Nat} (T : TypeId) (cs : Array Value) (h : w.heap.size = b) : Blc (w.alloc (.cells cs T)) b T cs := by subst h; exact Blc.new w T cs
theorem VsAt.far {w : World} {g o n cap : Nat} {l : List Vr} (h : VsAt w (.slice (some ⟨g, o, none⟩) n cap) l) {a : Addr} (hne : g ≠ a.block) (u : Value) : VsAt (w.setCell a u) (.slice (some ⟨g, o, none⟩) n cap) l := by
  obtain ⟨h0, hz, p, cap', h1, h3, h4⟩ := h
  refine ⟨h0, hz, p, cap', h1, h3, fun i hi => ?_⟩
  obtain ⟨b, off, e, h2, h5, h6, h7⟩ := h4 i hi
  have hbg : b ≠ a.block := by
    rw [e] at h1
    simp only [Value.slice.injEq, Option.some.injEq, Addr.mk.injEq] at h1
    omega
  have hc : ∀ j, (w.setCell a u).cell? ⟨b, j, none⟩ = w.cell? ⟨b, j, none⟩ := fun j => World.cell?_of_block (heap_setCell_other w a b u (fun e => hbg (by simp [e])))
  exact ⟨b, off, e, by simpa using h2, by rw [hc]; exact h5, by rw [hc]; exact h6, by rw [hc]; exact h7⟩
/-- What is told, part by part. -/
def cKey : Bool → ByteArray → ByteArray
  | true, k => k
  | false, _ => E0
def cVal : Bool → Value → Value
  | true, v => v
  | false, _ => .slice none 0 0
theorem chTwo_parts (ok : Bool) (k : ByteArray) (v : Value) : chTwo ok k v = .tuple #[.agg #[.string (cKey ok k), cVal ok v], .int .i64 (errE ok)] := by
  cases ok <;> rfl
theorem cVal_slice (ok : Bool) (p : Option Addr) (n c : Nat) : ∃ p' n' c', cVal ok (.slice p n c) = .slice p' n' c' := by
  cases ok <;> exact ⟨_, _, _, rfl⟩

def AddPost (wr : World) (ok : Bool) (k : ByteArray) (x : Vr) (l : List Vr) (tb : Nat) : Nat → List Value → World → Prop
  | 0, [], w => w = wr.drew
  | 1, [a], w => a = .slice (some ⟨wr.heap.size, 0, none⟩) 1 1 ∧ w = wr.drew.alloc (.cells #[.int .i64 x.c, .string x.s, .bool x.g] 37)
  | 2, [_, b], w => ∃ g cap, b = .slice (some ⟨g, 0, none⟩) (l.length + 1) cap ∧ OwnV wr.heap.size w b (x :: l) ∧ Below wr.heap.size wr w
  | 3, [_, b, c], w => ∃ g cap, b = .slice (some ⟨g, 0, none⟩) (l.length + 1) cap ∧ c = .tuple #[.agg #[.string (cKey ok k), cVal ok b], .int .i64 (errE ok)] ∧ OwnV wr.heap.size w b (x :: l) ∧ Below wr.heap.size wr w
  | 4, [_, b, c, d], w => ∃ g cap w8, d = undef ∧ b = .slice (some ⟨g, 0, none⟩) (l.length + 1) cap ∧ c = .tuple #[.agg #[.string (cKey ok k), cVal ok b], .int .i64 (errE ok)] ∧ OwnV wr.heap.size w8 b (x :: l) ∧ Below wr.heap.size wr w8 ∧ w = (w8.setCell ⟨tb, 0, none⟩ (.string (cKey ok k))).setCell ⟨tb, 1, none⟩ (cVal ok b)
  | 5, [_, b, c, d, e], w => ∃ g cap w8, e = .int .i64 (errE ok) ∧ d = undef ∧ b = .slice (some ⟨g, 0, none⟩) (l.length + 1) cap ∧ c = .tuple #[.agg #[.string (cKey ok k), cVal ok b], .int .i64 (errE ok)] ∧ OwnV wr.heap.size w8 b (x :: l) ∧ Below wr.heap.size wr w8 ∧ w = (w8.setCell ⟨tb, 0, none⟩ (.string (cKey ok k))).setCell ⟨tb, 1, none⟩ (cVal ok b)
  | _, _, _ => False
theorem ap_len {wr w9 : World} {ok : Bool} {k : ByteArray} {x : Vr} {l : List Vr} {tb j : Nat} {vs : List Value} (hp : AddPost wr ok k x l tb j vs w9) : vs.length = j := by
  unfold AddPost at hp
  split at hp <;> first | rfl | cases hp
theorem ap_five {wr w9 : World} {ok : Bool} {k : ByteArray} {x : Vr} {l : List Vr} {tb : Nat} {vs : List Value} (hp : AddPost wr ok k x l tb 5 vs w9) : ∃ v1 v2 v3 v4 v5, vs = [v1, v2, v3, v4, v5] := by
  have h := ap_len hp
  match vs, h with
  | [a, b, c, d, e], _ => exact ⟨a, b, c, d, e, rfl⟩
theorem ap_blc {wr w9 : World} {ok : Bool} {k : ByteArray} {x : Vr} {l : List Vr} {tb j : Nat} {vs : List Value} (hp : AddPost wr ok k x l tb j vs w9) (hj : j < 5) {b : Nat} {T : TypeId} {cs : Array Value} (hb : Blc wr b T cs) (hne : b ≠ tb) : Blc w9 b T cs := by
  unfold AddPost at hp
  split at hp
  · subst hp; exact hb
  · obtain ⟨-, rfl⟩ := hp; exact Blc.alloc hb _
  · obtain ⟨g, cap, -, -, hbel⟩ := hp; exact hb.below hbel
  · obtain ⟨g, cap, -, -, -, hbel⟩ := hp; exact hb.below hbel
  · obtain ⟨g, cap, w8, -, -, -, -, hbel, rfl⟩ := hp
    exact ((hb.below hbel).far (a := ⟨tb, 0, none⟩) hne _).far (a := ⟨tb, 1, none⟩) hne _
  · omega
  · cases hp
theorem ap_ext {wr w9 : World} {ok : Bool} {k : ByteArray} {x : Vr} {l : List Vr} {tb j : Nat} {vs : List Value} (hl : l.length ≤ 1000000) (hp : AddPost wr ok k x l tb j vs w9) (hj : j < 5) : ∃ v w', AddPost wr ok k x l tb (j + 1) (vs ++ [v]) w' := by
  unfold AddPost at hp
  split at hp
  · exact ⟨_, _, rfl, rfl⟩
  · refine ⟨.slice (some ⟨wr.heap.size, 0, none⟩) (l.length + 1) (l.length + 1), wr.alloc (.cells (vCells (x :: l)).toArray 37), _, _, rfl, ?_, nw_alloc (Below.refl _ _) _⟩
    have h := World.ownsRow_lit (e := 37) (size := 3) (base := wr.heap.size) wr (vCells (x :: l)).toArray (l.length + 1) (Nat.le_refl _) (by unfold maxLen; omega) (by rw [List.size_toArray, vCells_length]; rfl)
    exact h
  · obtain ⟨g, cap, rfl, h1, h2⟩ := hp
    exact ⟨_, _, g, cap, rfl, rfl, h1, h2⟩
  · obtain ⟨g, cap, rfl, rfl, h1, h2⟩ := hp
    exact ⟨_, _, g, cap, _, rfl, rfl, rfl, h1, h2, rfl⟩
  · obtain ⟨g, cap, w8, rfl, rfl, rfl, h1, h2, h3⟩ := hp
    exact ⟨_, _, g, cap, w8, rfl, rfl, rfl, rfl, h1, h2, h3⟩
  · omega
  · cases hp
end Go.Proofs.Ytkjejmikcgjnaaa
