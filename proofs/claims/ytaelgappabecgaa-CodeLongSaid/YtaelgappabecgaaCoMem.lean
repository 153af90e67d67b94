/- Byte rows that a call owns, sinks, what a sink's call leaves alone; append of zeros. No condition. -/
import Derived.Test.YtaelgappabecgaaRows
import Derived.Test.YtaelgappabecgaaPdPlain
import Derived.Test.YtaelgappabecgaaTBlc
import Derived.Test.YtaelgappabecgaaWQuiet
import Derived.Lib.AppendStr
import Derived.Lib.UnsafeStr
import Derived.Deep.RegionLaw
import Derived.Deep.AppendLies
import Derived.Deep.LoopGhost
import Derived.Lib.Strings
import Derived.IntWalk
namespace Go.Proofs.Ytaelgappabecgaa
open Go.RowKit

theorem Blc.newAt (w : World) {b : Nat} (T : TypeId) (cs : Array Value) (h : w.heap.size = b) : Blc (w.alloc (.cells cs T)) b T cs := by subst h; exact Blc.new w T cs
/-- A row of another type lies in another block. -/
theorem not_own {w : World} {B : Nat} {e : TypeId} {s : Nat} {v : Value} {n : Nat} {xs : List Value} (h : w.ownsRow B e s v n xs) {b : Nat} {T : TypeId} {cs : Array Value} (hb : Blc w b T cs) (hne : e ≠ T) : v.ownBlock ≠ some b := by
  rcases h.2 with ⟨rfl, -⟩ | ⟨g, cap, cur, rfl, -, hg, -⟩
  · intro h; cases h
  · intro e1
    rw [ownBlock_mk] at e1
    obtain rfl := Option.some.inj e1
    unfold Blc at hb
    rw [hg] at hb
    simp at hb
    exact hne hb.2
theorem info_u8 : (Try.prog.info? 5).map (fun i => (i.zero, i.size, i.bytes)) = some (some (.int .u8 0), 1, 1) := by kernel_rfl
theorem info_write : (Try.prog.info? 43).map (fun i => (i.zero, i.size, i.bytes)) = some (some (.agg #[.int .i64 0, .string { data := #[] }, .string { data := #[] }, .bool false]), 4, 48) := by kernel_rfl
theorem info_string : (Try.prog.info? 9).map (fun i => (i.zero, i.size, i.bytes)) = some (some (.string { data := #[] }), 1, 16) := by kernel_rfl
theorem info_rec : (Try.prog.info? 34).map (fun i => (i.zero, i.size, i.bytes)) = some (some (.agg #[.int .i64 0, .slice none 0 0]), 2, 32) := by kernel_rfl
theorem info_bs : (Try.prog.info? 41).map (fun i => (i.zero, i.size, i.bytes)) = some (some (.slice none 0 0), 1, 24) := by kernel_rfl
theorem info_parts {t : TypeId} {z : Value} {s b : Nat} (h : (Try.prog.info? t).map (fun i => (i.zero, i.size, i.bytes)) = some (some z, s, b)) : ∃ i, Try.prog.info? t = some i ∧ i.zero = some z ∧ i.size = s ∧ i.bytes = b := by
  rw [Option.map_eq_some_iff] at h
  obtain ⟨i, hi, h2⟩ := h
  simp only [Prod.mk.injEq] at h2
  exact ⟨i, hi, h2.1, h2.2.1, h2.2.2⟩

/-- What a sink's call leaves alone: the blocks ahead of B, and those that are no sinks and no rows of bytes. -/
structure KpS (B : Nat) (w w' : World) : Prop where
  os : w'.os = w.os
  tape : w'.tape = w.tape
  output : w'.output = w.output
  size : w.heap.size ≤ w'.heap.size
  low : ∀ k, k < B → k < w.heap.size → w'.heap[k]? = w.heap[k]?
  oth : ∀ (k : Nat) (cs : Array Value) (T : TypeId) (fz : Nat × Nat), w.heap[k]? = some (.cells cs T fz) → T ≠ 69 → T ≠ 5 → w'.heap[k]? = some (.cells cs T fz)
theorem KpS.refl (B : Nat) (w : World) : KpS B w w := ⟨rfl, rfl, rfl, Nat.le_refl _, fun _ _ _ => rfl, fun _ _ _ _ h _ _ => h⟩
theorem KpS.trans {B : Nat} {w w1 w2 : World} (h : KpS B w w1) (k : KpS B w1 w2) : KpS B w w2 :=
  ⟨k.os.trans h.os, k.tape.trans h.tape, k.output.trans h.output, Nat.le_trans h.size k.size, fun i hi hl => (k.low i hi (Nat.lt_of_lt_of_le hl h.size)).trans (h.low i hi hl), fun i cs T fz hc h1 h2 => k.oth i cs T fz (h.oth i cs T fz hc h1 h2) h1 h2⟩
theorem KpS.of {B : Nat} {w w' : World} (h : Below w.heap.size w w') : KpS B w w' :=
  ⟨h.os, h.tape, h.output, h.size, fun k _ hl => h.block k hl, fun k _ _ _ hc _ _ => (h.block k (Array.getElem?_eq_some_iff.1 hc).1).trans hc⟩
theorem KpS.below {B : Nat} {w w' : World} (h : KpS B w w') (hB : B ≤ w.heap.size) : Below B w w' :=
  ⟨h.os, h.tape, h.output, h.size, fun k hk => h.low k hk (by omega)⟩
theorem KpS.mono {B B' : Nat} {w w' : World} (h : KpS B w w') (hB : B' ≤ B) : KpS B' w w' :=
  ⟨h.os, h.tape, h.output, h.size, fun k hk => h.low k (by omega), h.oth⟩
theorem KpS.set {B b : Nat} {w : World} {cs : Array Value} (h : Blc w b 69 cs) (hB : B ≤ b) (i : Nat) (u : Value) : KpS B w (w.setCell ⟨b, i, none⟩ u) := by
  have hb : Below 0 w (w.setCell ⟨b, i, none⟩ u) := (Below.refl 0 w).setCell (Nat.zero_le _) u
  refine ⟨hb.os, hb.tape, hb.output, hb.size, fun k hk _ => heap_setCell_other w _ k u (fun e => by have : k = b := e; omega), fun k cs' T fz hc h1 _ => ?_⟩
  rw [heap_setCell_other w _ k u (fun e => ?_), hc]
  obtain rfl : k = b := e
  unfold Blc at h
  rw [h] at hc
  simp at hc
  exact h1 hc.2.1.symm
theorem KpS.grown {B : Nat} {w w' : World} {v : Value} {n : Nat} {xs : List Value} (h : w.ownsRow B 5 1 v n xs) (hg : w.grownBy w' v.ownBlock) : KpS B w w' := by
  refine ⟨hg.os, hg.tape, hg.output, hg.size, fun k hk hl => hg.block k hl (fun e => ?_), fun k cs T fz hc h1 h2 => ?_⟩
  · rcases h.2 with ⟨rfl, -⟩ | ⟨g, cap, cur, rfl, hb, -⟩
    · cases e
    · rw [ownBlock_mk] at e; have := Option.some.inj e; omega
  · rw [hg.block k (Array.getElem?_eq_some_iff.1 hc).1 (fun e => ?_), hc]
    rcases h.2 with ⟨rfl, -⟩ | ⟨g, cap, cur, rfl, hb, hgg, -⟩
    · cases e
    · rw [ownBlock_mk] at e
      obtain rfl := Option.some.inj e
      rw [hgg] at hc
      simp at hc
      exact h2 hc.2.1.symm
theorem Blc.kps {B b : Nat} {w w' : World} {T : TypeId} {cs : Array Value} (h : Blc w b T cs) (hk : KpS B w w') (h1 : T ≠ 69) (h2 : T ≠ 5) : Blc w' b T cs := hk.oth b cs T (0, 0) h h1 h2
theorem own_kps {B B' : Nat} {w w' : World} {e : TypeId} {s : Nat} {v : Value} {n : Nat} {xs : List Value} (h : w.ownsRow B' e s v n xs) (hk : KpS B w w') (h1 : e ≠ 69) (h2 : e ≠ 5) : w'.ownsRow B' e s v n xs := by
  refine ⟨h.1, ?_⟩
  rcases h.2 with h3 | ⟨g, cap, cur, hv, hb, hg, r⟩
  · exact .inl h3
  · exact .inr ⟨g, cap, cur, hv, hb, hk.oth g cur e (0, 0) hg h1 h2, r⟩

/-- A row of bytes that the call owns. -/
def OwnB (B : Nat) (w : World) (v : Value) (l : List UInt8) : Prop := w.ownsRow B 5 1 v l.length (Lib.byteCells l)
theorem OwnB.below {B : Nat} {w w' : World} {v : Value} {l : List UInt8} (h : OwnB B w v l) (hb : Below w.heap.size w w') : OwnB B w' v l := own_below h hb
theorem OwnB.nil (B : Nat) (w : World) : OwnB B w (.slice none 0 0) [] := World.ownsRow_nil _ _ _ _
theorem OwnB.slice {B : Nat} {w : World} {v : Value} {l : List UInt8} (h : OwnB B w v l) : ∃ p c, v = .slice p l.length c := by
  rcases h.2 with ⟨rfl, h0⟩ | ⟨g, c, cur, rfl, -⟩
  · exact ⟨none, 0, by rw [h0]⟩
  · exact ⟨_, _, rfl⟩
theorem OwnB.form {B : Nat} {w : World} {v : Value} {l : List UInt8} (h : OwnB B w v l) : (l = [] ∧ v = .slice none 0 0) ∨ ∃ g c, v = .slice (some ⟨g, 0, none⟩) l.length c ∧ l.length ≤ c ∧ B ≤ g ∧ Lt g w.heap.size ∧ ∀ j (hj : j < l.length), w.cell? ⟨g, j, none⟩ = some (.int .u8 (l[j].toNat : Int)) := by
  rcases h.2 with ⟨rfl, h0⟩ | ⟨g, c, cur, rfl, hb, hg, hc, -⟩
  · exact .inl ⟨List.length_eq_zero_iff.1 h0, rfl⟩
  · refine .inr ⟨g, c, rfl, hc, hb, (Array.getElem?_eq_some_iff.1 hg).1, fun j hj => ?_⟩
    have := World.ownsRow.cellAt h j (by omega)
    rw [this]
    simp [Lib.byteCells, hj]
/-- A sink: its one cell is a row of bytes that the call owns. -/
structure Snk (B : Nat) (w : World) (b : Nat) (u : Value) (l : List UInt8) : Prop where
  blk : Blc w b 69 #[u]
  own : OwnB B w u l
  le : B ≤ b
theorem Snk.below {B b : Nat} {w w' : World} {u : Value} {l : List UInt8} (h : Snk B w b u l) (hb : Below w.heap.size w w') : Snk B w' b u l := ⟨h.blk.below hb, h.own.below hb, h.le⟩
/-- The sink's cell is set to what a row of its own has become. -/
theorem Snk.put {B b : Nat} {w w1 : World} {u u' : Value} {l l' : List UInt8} (h : Snk B w b u l) (ho : OwnB B w1 u' l') (hg : w.grownBy w1 u.ownBlock) : Snk B (w1.setCell ⟨b, 0, none⟩ u') b u' l' ∧ KpS B w (w1.setCell ⟨b, 0, none⟩ u') := by
  have hb : Blc w1 b 69 #[u] := h.blk.grown hg (not_own h.own h.blk (by decide))
  have hn := not_own ho hb (by decide)
  refine ⟨⟨?_, ownsRow_setCell_other ho hn _, h.le⟩, (KpS.grown h.own hg).trans (KpS.set hb h.le 0 u')⟩
  have := hb.set 0 u'
  simpa using this
/-- A world with a block more than one with the sink, the row grown from there. -/
theorem OwnB.snoc {B : Nat} {w : World} {v : Value} {l m : List UInt8} {n : Nat} (h : w.ownsRow B 5 1 v n (Lib.byteCells l ++ Lib.byteCells m)) (hn : n = l.length + m.length) : OwnB B w v (l ++ m) := by
  subst hn; unfold OwnB; rw [List.length_append, Lib.byteCells_append]; exact h

section
variable {P : Program} (w : World)
theorem zeroB (n : Nat) : Builtin.zeroCells (Value.int .u8 0).cells n = (Lib.byteCells (List.replicate n 0)).toArray := by
  apply Array.ext'
  simp [Builtin.zeroCells, Lib.byteCells, Value.cells]
  rw [List.eq_replicate_iff]
  refine ⟨by simp, fun x hx => ?_⟩
  obtain ⟨i, -, rfl⟩ := List.mem_map.1 hx
  rw [Nat.mod_one]; rfl
end
end Go.Proofs.Ytaelgappabecgaa
