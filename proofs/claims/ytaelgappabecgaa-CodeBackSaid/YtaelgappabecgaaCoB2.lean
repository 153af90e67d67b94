/- Contracts: a source's functions, said by what they leave alone. No condition. -/
import Derived.Test.YtaelgappabecgaaCoB
import Derived.Test.YtaelgappabecgaaCoA
namespace Go.Proofs.Ytaelgappabecgaa
open Go.RowKit

/-- All blocks but one stay. -/
structure KpX (sb : Nat) (w w' : World) : Prop where
  os : w'.os = w.os
  tape : w'.tape = w.tape
  output : w'.output = w.output
  size : w.heap.size ≤ w'.heap.size
  block : ∀ k, k < w.heap.size → k ≠ sb → w'.heap[k]? = w.heap[k]?
theorem KpX.refl (b : Nat) (w : World) : KpX b w w := ⟨rfl, rfl, rfl, Nat.le_refl _, fun _ _ _ => rfl⟩
theorem KpX.trans {b : Nat} {w w1 w2 : World} (h : KpX b w w1) (k : KpX b w1 w2) : KpX b w w2 :=
  ⟨k.os.trans h.os, k.tape.trans h.tape, k.output.trans h.output, Nat.le_trans h.size k.size, fun i hi hn => (k.block i (Nat.lt_of_lt_of_le hi h.size) hn).trans (h.block i hi hn)⟩
theorem KpX.of {b : Nat} {w w' : World} (h : Below w.heap.size w w') : KpX b w w' := ⟨h.os, h.tape, h.output, h.size, fun k hk _ => h.block k hk⟩
theorem KpX.set (b i : Nat) (w : World) (u : Value) : KpX b w (w.setCell ⟨b, i, none⟩ u) := by
  have hb : Below 0 w (w.setCell ⟨b, i, none⟩ u) := (Below.refl 0 w).setCell (Nat.zero_le _) u
  exact ⟨hb.os, hb.tape, hb.output, hb.size, fun k _ hn => heap_setCell_other w ⟨b, i, none⟩ k u hn⟩
theorem KpX.below {B b : Nat} {w w' : World} (h : KpX b w w') (h1 : B ≤ b) (h2 : B ≤ w.heap.size) : Below B w w' :=
  ⟨h.os, h.tape, h.output, h.size, fun k hk => h.block k (by omega) (by omega)⟩
theorem Blc.kpx {b sb : Nat} {w w' : World} {T : TypeId} {cs : Array Value} (h : Blc w b T cs) (hk : KpX sb w w') (hn : b ≠ sb) : Blc w' b T cs := (hk.block b h.lt hn).trans h
theorem own_kpx {B b : Nat} {w w' : World} {e : TypeId} {s : Nat} {v : Value} {n : Nat} {xs : List Value} (h : w.ownsRow B e s v n xs) (hk : KpX b w w') (hn : v.ownBlock ≠ some b) : w'.ownsRow B e s v n xs := by
  refine ⟨h.1, ?_⟩
  rcases h.2 with h3 | ⟨g, cap, cur, hv, hb, hg, r⟩
  · exact .inl h3
  · refine .inr ⟨g, cap, cur, hv, hb, ?_, r⟩
    rw [hk.block g (Array.getElem?_eq_some_iff.1 hg).1 (fun e => hn (by rw [hv, ownBlock_mk, e])), hg]

/-- What a source's call leaves. -/
def SrcOut (b : Nat) (w : World) (v : Value) (L : List UInt8) (e : Ending) (w' : World) : Prop := e = .returned v ∧ Blc w' b 78 #[.string (toB L)] ∧ KpX b w w'
theorem srcNumber_x (b : Nat) (w : World) (L : List UInt8) (k : Nat) (hk : k ≤ 4) (h : Blc w b 78 #[.string (toB L)]) (hL : L.length ≤ 140737488355328) :
    Calls Try.prog 37 #[.pointer (some ⟨b, 0, none⟩), .int .i64 k] w (SrcOut b w (.int .i64 (decN (L.take k))) (L.drop k)) := by
  have h1 := srcNumber_any b w (toB L) k hk h (by rw [toB_size]; exact hL)
  rw [toB_data] at h1
  refine h1.mono ?_
  rintro e w' ⟨rfl, n, es, rfl⟩
  refine ⟨rfl, ?_, (KpX.set b 0 w _).trans (KpX.of (by (repeat (first | exact Below.refl _ _ | assumption | refine nw_more ?_ _ _ | refine nw_alloc ?_ _ | refine nw_drew ?_ | refine nw_drewN ?_ _ | refine nw_set ?_ (by first | (simp; done) | (simp; omega) | omega) _))))⟩
  have := (h.set 0 (.string (toB (L.drop k)))).mre n es
  simpa using this
theorem srcText_x (b : Nat) (w : World) (L : List UInt8) (h : Blc w b 78 #[.string (toB L)]) (hL : L.length ≤ 140737488355328) :
    Calls Try.prog 38 #[.pointer (some ⟨b, 0, none⟩)] w (SrcOut b w (.string (txtP L).1) (txtP L).2) := by
  have h1 := srcText_any b w (toB L) h (by rw [toB_size]; exact hL)
  rw [toB_data] at h1
  refine h1.mono ?_
  rintro e w' ⟨rfl, n, es, rfl⟩
  refine ⟨rfl, ?_, (KpX.set b 0 w _).trans (KpX.of (by (repeat (first | exact Below.refl _ _ | assumption | refine nw_more ?_ _ _ | refine nw_alloc ?_ _ | refine nw_drew ?_ | refine nw_drewN ?_ _ | refine nw_set ?_ (by first | (simp; done) | (simp; omega) | omega) _))))⟩
  have := (h.set 0 (.string (toB (txtP L).2))).mre n es
  simpa using this
theorem txtP_len (L : List UInt8) : (txtP L).2.length ≤ L.length ∧ (txtP L).1.size ≤ 255 := by
  have := decN_take L 1
  unfold txtP
  dsimp only
  rw [toB_size, List.length_drop, List.length_drop, List.length_take]
  omega
end Go.Proofs.Ytaelgappabecgaa
