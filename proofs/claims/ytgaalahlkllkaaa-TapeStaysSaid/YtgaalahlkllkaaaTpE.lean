/- A tape in a variable, and what its changes leave alone. No condition. -/
import Derived.Test.YtgaalahlkllkaaaTpD
namespace Go.Proofs.Ytgaalahlkllkaaa
open Go.RowKit

/-- What a change of the tape in the block b leaves alone: the blocks ahead of B, and those that are neither it nor rows of texts or puts. -/
structure Kt (B b : Nat) (w w' : World) : Prop where
  os : w'.os = w.os
  tape : w'.tape = w.tape
  output : w'.output = w.output
  size : w.heap.size ≤ w'.heap.size
  low : ∀ k, k < B → k < w.heap.size → w'.heap[k]? = w.heap[k]?
  oth : ∀ (k : Nat) (cs : Array Value) (T : TypeId) (fz : Nat × Nat), w.heap[k]? = some (.cells cs T fz) → k ≠ b → T ≠ 9 → T ≠ 40 → w'.heap[k]? = some (.cells cs T fz)
theorem Kt.refl (B b : Nat) (w : World) : Kt B b w w := ⟨rfl, rfl, rfl, Nat.le_refl _, fun _ _ _ => rfl, fun _ _ _ _ h _ _ _ => h⟩
theorem Kt.trans {B b : Nat} {w w1 w2 : World} (h : Kt B b w w1) (k : Kt B b w1 w2) : Kt B b w w2 :=
  ⟨k.os.trans h.os, k.tape.trans h.tape, k.output.trans h.output, Nat.le_trans h.size k.size, fun i hi hl => (k.low i hi (Nat.lt_of_lt_of_le hl h.size)).trans (h.low i hi hl), fun i cs T fz hc h1 h2 h3 => k.oth i cs T fz (h.oth i cs T fz hc h1 h2 h3) h1 h2 h3⟩
theorem Kt.of {B b : Nat} {w w' : World} (h : Below w.heap.size w w') : Kt B b w w' :=
  ⟨h.os, h.tape, h.output, h.size, fun k _ hl => h.block k hl, fun k _ _ _ hc _ _ _ => (h.block k (Array.getElem?_eq_some_iff.1 hc).1).trans hc⟩
theorem Kt.below {B b : Nat} {w w' : World} (h : Kt B b w w') (hB : B ≤ w.heap.size) : Below B w w' :=
  ⟨h.os, h.tape, h.output, h.size, fun k hk => h.low k hk (by omega)⟩
/-- A cell of the tape's variable is set. -/
theorem Kt.set {B b : Nat} {w : World} (hB : B ≤ b) (i : Nat) (u : Value) : Kt B b w (w.setCell ⟨b, i, none⟩ u) := by
  have hb : Below 0 w (w.setCell ⟨b, i, none⟩ u) := (Below.refl 0 w).setCell (Nat.zero_le _) u
  exact ⟨hb.os, hb.tape, hb.output, hb.size, fun k hk _ => heap_setCell_other w _ k u (fun e => by have : k = b := e; omega), fun k cs' T fz hc h1 _ _ => by
    rw [heap_setCell_other w _ k u (fun e => h1 e), hc]⟩
/-- A cell of a row of texts or puts that the call owns is set. -/
theorem Kt.row {B b : Nat} {w : World} {e : TypeId} {s : Nat} {g c : Nat} {n : Nat} {xs : List Value} (h : w.ownsRow B e s (.slice (some ⟨g, 0, none⟩) n c) n xs) (he : e = 9 ∨ e = 40) (i : Nat) (u : Value) : Kt B b w (w.setCell ⟨g, i, none⟩ u) := by
  have hb : Below 0 w (w.setCell ⟨g, i, none⟩ u) := (Below.refl 0 w).setCell (Nat.zero_le _) u
  have hg := World.ownsRow.lt h g rfl
  refine ⟨hb.os, hb.tape, hb.output, hb.size, fun k hk _ => heap_setCell_other w _ k u (fun e => by have : k = g := e; omega), fun k cs T fz hc _ h2 h3 => ?_⟩
  rw [heap_setCell_other w _ k u (fun e1 => ?_), hc]
  obtain rfl : k = g := e1
  rcases h.2 with ⟨e2, -⟩ | ⟨g', cap, cur, e2, -, hgg, -⟩
  · cases e2
  · have : g' = k := by have := congrArg Value.ownBlock e2; rw [ownBlock_mk, ownBlock_mk] at this; exact (Option.some.inj this).symm
    subst this
    rw [hgg] at hc
    simp at hc
    rcases he with he | he
    · exact h2 (hc.2.1.symm.trans he)
    · exact h3 (hc.2.1.symm.trans he)
theorem Kt.grown {B b : Nat} {w w' : World} {e : TypeId} {s : Nat} {v : Value} {n : Nat} {xs : List Value} (h : w.ownsRow B e s v n xs) (he : e = 9 ∨ e = 40) (hg : w.grownBy w' v.ownBlock) : Kt B b w w' := by
  refine ⟨hg.os, hg.tape, hg.output, hg.size, fun k hk hl => hg.block k hl (fun e1 => ?_), fun k cs T fz hc _ h2 h3 => ?_⟩
  · have := (World.ownsRow.lt h k e1.symm).1; omega
  · rw [hg.block k (Array.getElem?_eq_some_iff.1 hc).1 (fun e1 => ?_), hc]
    rcases h.2 with ⟨rfl, -⟩ | ⟨g, cap, cur, rfl, hb, hgg, -⟩
    · cases e1
    · rw [ownBlock_mk] at e1
      obtain rfl := Option.some.inj e1
      rw [hgg] at hc
      simp at hc
      rcases he with he | he
      · exact h2 (hc.2.1.symm.trans he)
      · exact h3 (hc.2.1.symm.trans he)
theorem Blc.kt {B b k : Nat} {w w' : World} {T : TypeId} {cs : Array Value} (h : Blc w k T cs) (hk : Kt B b w w') (h1 : k ≠ b) (h2 : T ≠ 9) (h3 : T ≠ 40) : Blc w' k T cs := hk.oth k cs T (0, 0) h h1 h2 h3

/-- A tape in a variable: its two cells, its rows, which the call owns. -/
structure Tb (B : Nat) (w : World) (b : Nat) (u v : Value) (S : List ByteArray) (l : List Pt) : Prop where
  blk : Blc w b 25 #[u, v]
  o : OwnS B w u S
  p : OwnP B w v l
theorem Tb.below {B b : Nat} {w w' : World} {u v : Value} {S : List ByteArray} {l : List Pt} (h : Tb B w b u v S l) (hb : Below w.heap.size w w') : Tb B w' b u v S l := ⟨h.blk.below hb, h.o.below hb, h.p.below hb⟩
theorem Tb.mono {B B' b : Nat} {w : World} {u v : Value} {S : List ByteArray} {l : List Pt} (h : Tb B w b u v S l) (hb : B' ≤ B) : Tb B' w b u v S l := ⟨h.blk, World.ownsRow.mono h.o hb, World.ownsRow.mono h.p hb⟩
/-- A text more: the row has grown, its variable is set. -/
theorem Tb.addS {B b : Nat} {w w1 : World} {u v u' : Value} {S : List ByteArray} {l : List Pt} {s : ByteArray} (h : Tb B w b u v S l) (hB : B ≤ b) (ho : w1.ownsRow B 9 1 u' (S.length + 1) (S.map Value.string ++ [.string s])) (hg : w.grownBy w1 u.ownBlock) :
    Tb B (w1.setCell ⟨b, 0, none⟩ u') b u' v (S ++ [s]) l ∧ Kt B b w (w1.setCell ⟨b, 0, none⟩ u') := by
  have hb : Blc w1 b 25 #[u, v] := h.blk.grown hg (not_own h.o h.blk (by decide))
  have hp : OwnP B w1 v l := World.ownsRow.kept h.p hg (own_apart h.p h.o (by decide))
  refine ⟨⟨?_, ownsRow_setCell_other (OwnS.snoc ho) (not_own ho hb (by decide)) _, ownsRow_setCell_other hp (not_own hp hb (by decide)) _⟩, (Kt.grown h.o (.inl rfl) hg).trans (Kt.set hB 0 u')⟩
  have := hb.set 0 u'
  simpa using this
/-- A put more. -/
theorem Tb.addP {B b : Nat} {w w1 : World} {u v v' : Value} {S : List ByteArray} {l : List Pt} {y : Pt} (h : Tb B w b u v S l) (hB : B ≤ b) (ho : w1.ownsRow B 40 2 v' (l.length + 1) (ptCells l ++ [.int .i64 y.i, .string y.s])) (hg : w.grownBy w1 v.ownBlock) :
    Tb B (w1.setCell ⟨b, 1, none⟩ v') b u v' S (l ++ [y]) ∧ Kt B b w (w1.setCell ⟨b, 1, none⟩ v') := by
  have hb : Blc w1 b 25 #[u, v] := h.blk.grown hg (not_own h.p h.blk (by decide))
  have hp : OwnS B w1 u S := World.ownsRow.kept h.o hg (own_apart h.o h.p (by decide))
  refine ⟨⟨?_, ownsRow_setCell_other hp (not_own hp hb (by decide)) _, ownsRow_setCell_other (OwnP.snoc ho) (not_own ho hb (by decide)) _⟩, (Kt.grown h.p (.inr rfl) hg).trans (Kt.set hB 1 v')⟩
  have := hb.set 1 v'
  simpa using this
/-- A text laid anew in its row. -/
theorem Tb.setS {B b : Nat} {w : World} {g c : Nat} {v : Value} {S : List ByteArray} {l : List Pt} (h : Tb B w b (.slice (some ⟨g, 0, none⟩) S.length c) v S l) (i : Nat) (s : ByteArray) :
    Tb B (w.setCell ⟨g, i, none⟩ (.string s)) b (.slice (some ⟨g, 0, none⟩) S.length c) v (S.set i s) l ∧ Kt B b w (w.setCell ⟨g, i, none⟩ (.string s)) := by
  have h1 := not_own h.o h.blk (by decide)
  rw [ownBlock_mk] at h1
  have h2 : v.ownBlock ≠ some g := by
    rcases own_apart h.p h.o (by decide) with h3 | h3
    · rw [h3]; intro e; cases e
    · exact h3
  exact ⟨⟨h.blk.far (a := ⟨g, i, none⟩) (fun e => h1 (by rw [e])) _, OwnS.set h.o i s, ownsRow_setCell_other (a := ⟨g, i, none⟩) h.p h2 _⟩, Kt.row h.o (.inl rfl) i _⟩
/-- What waits is laid anew. -/
theorem Tb.setL {B b : Nat} {w : World} {u v v' : Value} {S : List ByteArray} {l m : List Pt} (h : Tb B w b u v S l) (ho : OwnP B w v' m) : Tb B (w.setCell ⟨b, 1, none⟩ v') b u v' S m := by
  refine ⟨?_, ownsRow_setCell_other (a := ⟨b, 1, none⟩) h.o (not_own h.o h.blk (by decide)) _, ownsRow_setCell_other (a := ⟨b, 1, none⟩) ho (not_own ho h.blk (by decide)) _⟩
  have := h.blk.set 1 v'
  simpa using this
theorem Tb.cells {B b : Nat} {w : World} {u v : Value} {S : List ByteArray} {l : List Pt} (h : Tb B w b u v S l) : w.cell? ⟨b, 0, none⟩ = some u ∧ w.cell? ⟨b, 1, none⟩ = some v ∧ w.frozen? ⟨b, 0, none⟩ = false ∧ w.frozen? ⟨b, 1, none⟩ = false ∧ Lt b w.heap.size :=
  ⟨h.blk.cell 0, h.blk.cell 1, h.blk.free 0, h.blk.free 1, h.blk.lt⟩
theorem step_append_own {P : Program} {w : World} {ops : Array Oper} {o : Oper} {a : Act} {K : Act → World → Prop} {Q : Exit → Act → World → Prop} {E : Prop} (hgd : o.guard = none) (s x : Operand) (t : TypeId)
    (ho : o.op = .call { callee := .builtin .append, args := #[s, x], argTypes := #[t, t] })
    (base : Nat) (e : TypeId) (i : TypeInfo) (z : Value) (size bytes : Nat) (ht : P.underlying t = some (.slice e)) (hi : P.info? e = some i) (hz : i.zero = some z)
    (hsize : i.size = size) (hby : i.bytes = bytes) (hzs : z.cells.size = size) (hsz : 0 < size)
    (v : Value) (n : Nat) (xs : List Value) (hs : a.eval s = v) (hown : w.ownsRow base e size v n xs)
    (ad : Addr) (m c : Nat) (news : List Value) (hx : a.eval x = .slice (some ad) m c) (hl : news.length = m * size) (hnews : ∀ j u, news[j]? = some u → w.cell? (ad.add j) = some u) (h1 : ∀ u ∈ news, u.oneCell' = true)
    (h63 : n + m ≤ maxLen) (hbytes : (n + m) * bytes ≤ 140737488355328) (hbase : base ≤ w.heap.size)
    (h : ∀ v' w', w'.ownsRow base e size v' (n + m) (xs ++ news) → w.grownBy w' v.ownBlock → K (a.put o.dst v') w') :
    if Region.wanted o (yielded ops a.tmps) = true then Oper.wp P o a w K Q else E := by
  have hw : Region.wanted o (yielded ops a.tmps) = true := by simp [Region.wanted, hgd]
  rw [if_pos hw]
  exact wp_append_own w s x t ho base e i z size bytes ht hi hz hsize hby hzs hsz v n xs hs hown ad m c news hx hl hnews h1 h63 hbytes hbase fun v' w' h2 h3 _ => h v' w' h2 h3
theorem slice_own {w : World} {B : Nat} {e : TypeId} {s : Nat} {v : Value} {n : Nat} {xs : List Value} (h : w.ownsRow B e s v n xs) (hn : 0 < n) : ∃ q qc, v = .slice q n qc := by
  rcases h.2 with ⟨-, h0⟩ | ⟨g, cap, cur, rfl, -⟩
  · omega
  · exact ⟨_, _, rfl⟩
end Go.Proofs.Ytgaalahlkllkaaa
