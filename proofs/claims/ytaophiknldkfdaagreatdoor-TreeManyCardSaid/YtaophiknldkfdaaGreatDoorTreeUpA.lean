/- Rounds of splitUp and joinUp. -/
import Derived.Test.YtaophiknldkfdaaGreatDoorTreeX
import Derived.Test.YtaophiknldkfdaaGreatDoorTreeN
import Derived.Test.YtaophiknldkfdaaGreatDoorTBack
namespace Go.Proofs.YtaophiknldkfdaaGreatDoor
open Go.RowKit

attribute [local go_sem] Oper.semAt_some

theorem own_put {W : World} {B : Nat} {e : TypeId} {s n : Nat} {v : Value} {xs : List Value} (h : W.ownsRow B e s v n xs) {l : Nat} {o : Obj} (hl : W.heap[l]? = some o) (hc : o.isCells = false) (o' : Obj) : (W.putObj l o').ownsRow B e s v n xs := by
  refine World.ownsRow.kept h (grownBy_putObj' W l o') ?_
  rcases h.2 with ⟨rfl, -⟩ | ⟨g, c, cur, rfl, -, hg, -⟩
  · exact .inl rfl
  · refine .inr fun e1 => ?_
    have e2 : g = l := by cases e1; rfl
    subst e2
    rw [hg] at hl
    cases hl
    cases hc
theorem Blc.put {W : World} {b : Nat} {T : TypeId} {cs : Array Value} (h : Blc W b T cs) {l : Nat} {o : Obj} (hl : W.heap[l]? = some o) (hc : o.isCells = false) (o' : Obj) : Blc (W.putObj l o') b T cs := by
  refine Blc.grown h (grownBy_putObj' W l o') fun e => ?_
  cases e
  unfold Blc at h
  rw [hl] at h
  cases h
  cases hc
theorem TreeS.put {α : Type} {K : Ks α} {B tb : Nat} {W : World} {S : St α} (h : TreeS K B tb W S) {l : Nat} {o : Obj} (hl : W.heap[l]? = some o) (hc : o.isCells = false) (o' : Obj) : TreeS K B tb (W.putObj l o') S := by
  obtain ⟨P, v, fv0, fv, hnd, hot, hfv, htb⟩ := h
  refine ⟨P, v, fv0, fv, hnd, ⟨⟨own_put hot.ns.row hl hc o', fun x hx => ?_, hot.ns.len, hot.ns.ks, hot.ns.rs, hot.ns.cs, hot.ns.rc⟩, own_put hot.fr hl hc o', hot.fs⟩, hfv, htb.put hl hc o'⟩
  have hx2 := hot.ns.each x hx
  exact ⟨own_put hx2.1 hl hc o', own_put hx2.2.1 hl hc o', own_put hx2.2.2.1 hl hc o', hx2.2.2.2⟩
theorem StepT.put {B tb : Nat} {w W : World} (h : StepT B tb w W) {l : Nat} {o : Obj} (hw : w.heap.size ≤ l) (hl : W.heap[l]? = some o) (o' : Obj) : StepT B tb w (W.putObj l o') := by
  have hg := grownBy_putObj' W l o'
  have hlt := (Array.getElem?_eq_some_iff.1 hl).1
  have hat : ∀ k, k < w.heap.size → (W.putObj l o').heap[k]? = W.heap[k]? := fun k hk => hg.block k (by have := h.size; omega) (fun e => by cases e; omega)
  refine ⟨hg.os.trans h.os, hg.tape.trans h.tape, hg.output.trans h.output, Nat.le_trans h.size hg.size, fun k h1 h2 h3 => (hat k h2).trans (h.old k h1 h2 h3), fun g T cs hb h0 h1 h2 h3 => ?_, ⟨Nat.le_trans h.size hg.size, fun k q hk hq => (hat k (Array.getElem?_eq_some_iff.1 hk).1).trans (h.oth.same k q hk hq)⟩⟩
  exact (hat g hb.lt).trans (h.blc g T cs hb h0 h1 h2 h3)
theorem TreeS.below {α : Type} {K : Ks α} {B tb : Nat} {w w' : World} {S : St α} (h : TreeS K B tb w S) (hb : Below w.heap.size w w') : TreeS K B tb w' S := by
  obtain ⟨P, v, fv0, fv, hnd, hot, hfv, htb⟩ := h
  exact ⟨P, v, fv0, fv, hnd, hot.below hb, hfv, htb.below hb⟩
/-- What holds between two rounds. -/
def UpI {α : Type} (K : Ks α) (B tb : Nat) (w : World) (pv : Value) (pb : Nat) (G : Nat → St α → Prop) (k : Nat) (W : World) : Prop :=
  (∃ S1, TreeS K B tb W S1 ∧ G k S1) ∧ StepT B tb w W ∧ w.heap.size + 2 ≤ W.heap.size ∧ Blc W w.heap.size 66 #[.pointer (some ⟨tb, 0, none⟩)] ∧ Blc W (w.heap.size + 1) 57 #[pv] ∧ (pb = w.heap.size + 1 ∨ ∃ cs, Blc W pb 82 cs)
theorem UpI.put {α : Type} {K : Ks α} {B tb : Nat} {w : World} {pv : Value} {pb : Nat} {G : Nat → St α → Prop} {k : Nat} {W : World} (h : UpI K B tb w pv pb G k W) {l : Nat} {o : Obj} (hw : w.heap.size ≤ l) (hl : W.heap[l]? = some o) (hc : o.isCells = false) (o' : Obj) : UpI K B tb w pv pb G k (W.putObj l o') := by
  obtain ⟨⟨S1, hT, hs⟩, hst, hsz, h1, h2, h3⟩ := h
  refine ⟨⟨S1, hT.put hl hc o', hs⟩, hst.put hw hl o', Nat.le_trans hsz (grownBy_putObj' W l o').size, h1.put hl hc o', h2.put hl hc o', ?_⟩
  rcases h3 with e | ⟨cs, e⟩
  · exact .inl e
  · exact .inr ⟨cs, e.put hl hc o'⟩
theorem UpI.below {α : Type} {K : Ks α} {B tb : Nat} {w : World} {pv : Value} {pb : Nat} {G : Nat → St α → Prop} {k : Nat} {W W' : World} (h : UpI K B tb w pv pb G k W) (hb : Below W.heap.size W W') : UpI K B tb w pv pb G k W' := by
  obtain ⟨⟨S1, hT, hs⟩, hst, hsz, h1, h2, h3⟩ := h
  refine ⟨⟨S1, hT.below hb, hs⟩, hst.then hb, Nat.le_trans hsz hb.size, h1.below hb, h2.below hb, ?_⟩
  rcases h3 with e | ⟨cs, e⟩
  · exact .inl e
  · exact .inr ⟨cs, e.below hb⟩
def OnlyN (R : Act → World → Prop) : Exit → Act → World → Prop
  | .normal, a, w => R a w
  | _, _, _ => False
theorem hbt_cell {W : World} {b tb : Nat} {T : TypeId} (h : Blc W b T #[.pointer (some ⟨tb, 0, none⟩)]) : W.cell? ⟨b, 0, none⟩ = some (.pointer (some ⟨tb, 0, none⟩)) := by
  rw [h.cell 0]; rfl
theorem up_next {α : Type} {K : Ks α} {B tb : Nat} {w : World} {pv : Value} {pb : Nat} {G : Nat → St α → Prop} {S3 : St α} {k m : Nat} {W W9 : World} (hst : StepT B tb w W) (hsz : w.heap.size + 2 ≤ W.heap.size) (hbt : Blc W w.heap.size 66 #[.pointer (some ⟨tb, 0, none⟩)]) (hbb : Blc W (w.heap.size + 1) 57 #[pv]) (hpb : pb = w.heap.size + 1 ∨ ∃ cs, Blc W pb 82 cs) (hne : tb < w.heap.size) (hnp : pb ≠ tb)
    (h9 : StepT B tb W W9) (hT : TreeS K B tb W9 S3) (hr : G (k + 1) S3) : KeepsFrom m W W9 ∧ KeepB (w.heap.size + 1) pb W W9 ∧ UpI K B tb w pv pb G (k + 1) W9 := by
  have b2 := h9.blc _ _ _ hbt (by omega) (by decide) (by decide) (by decide)
  have b3 := h9.blc _ _ _ hbb (by omega) (by decide) (by decide) (by decide)
  refine ⟨h9.oth.from _, ⟨b3.trans hbb.symm, ?_⟩, ⟨S3, hT, hr⟩, hst.trans h9, Nat.le_trans hsz h9.size, b2, b3, ?_⟩
  · rcases hpb with e | ⟨cs, e⟩
    · rw [e]; exact b3.trans hbb.symm
    · exact (h9.blc _ _ _ e hnp (by decide) (by decide) (by decide)).trans e.symm
  · rcases hpb with e | ⟨cs, e⟩
    · exact .inl e
    · exact .inr ⟨cs, h9.blc _ _ _ e hnp (by decide) (by decide) (by decide)⟩
end Go.Proofs.YtaophiknldkfdaaGreatDoor
