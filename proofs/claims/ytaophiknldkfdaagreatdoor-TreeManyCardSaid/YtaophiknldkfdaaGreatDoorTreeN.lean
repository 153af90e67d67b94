/- A tree that a call owns: a node's list lies anew. -/
import Derived.Test.YtaophiknldkfdaaGreatDoorTreeJ2
import Derived.Test.YtaophiknldkfdaaGreatDoorTDel
import Derived.RangeFuncOwn
import Derived.RangeFuncCalls
namespace Go.Proofs.YtaophiknldkfdaaGreatDoor
open Go.RowKit

/-- A step within a tree that the call owns: what lies ahead of B stays, and so does what is of another type. -/
def Step (B : Nat) (w w' : World) : Prop := Below B w w' ∧ (∀ (b : Nat) (T : TypeId) (cs : Array Value), Blc w b T cs → T ≠ 53 → T ≠ 9 → T ≠ 3 → Blc w' b T cs) ∧ KeepsOthers w w'
theorem oth_below {w w' : World} (h : Below w.heap.size w w') : KeepsOthers w w' := ⟨h.size, fun k _ hk _ => (h.block k (Array.getElem?_eq_some_iff.1 hk).1).trans hk⟩
theorem oth_grown {B : Nat} {e : TypeId} {s n : Nat} {v : Value} {xs : List Value} {w w' : World} (h : w.ownsRow B e s v n xs) (hg : w.grownBy w' v.ownBlock) : KeepsOthers w w' := by
  refine KeepsOthers.of_grownBy hg (fun j o e1 ho => ?_)
  rcases h.2 with ⟨rfl, -⟩ | ⟨g, c, cur, rfl, -, hg2, -⟩
  · cases e1
  · cases e1
    rw [hg2] at ho
    cases ho
    rfl
theorem Step.trans {B : Nat} {a b c : World} (h : Step B a b) (k : Step B b c) : Step B a c := ⟨h.1.trans k.1, fun g T cs hb h1 h2 h3 => k.2.1 g T cs (h.2.1 g T cs hb h1 h2 h3) h1 h2 h3, h.2.2.trans k.2.2⟩
/-- A tree's nodes and free numbers, that the call owns. -/
structure OwnT {α : Type} (K : Ks α) (B : Nat) (w : World) (v fv : Value) (P : List (Nv α)) (F : List Int) : Prop where
  ns : OwnNs K B w v P
  fr : OwnI B w fv F
  fs : ∀ x ∈ P, Sep fv x.rv ∧ Sep fv x.cv

theorem at_set {α : Type} {P : List (Nv α)} {x y z : Nv α} {i j : Nat} (_hx : P[i]? = some x) (h : (P.set i y)[j]? = some z) : (j = i ∧ z = y) ∨ (j ≠ i ∧ P[j]? = some z) := by
  rw [List.getElem?_set] at h
  split at h
  · rename_i e
    split at h
    · exact .inl ⟨e.symm, (Option.some.inj h).symm⟩
    · cases h
  · rename_i e; exact .inr ⟨fun e2 => e e2.symm, h⟩
theorem mem_set {α : Type} {P : List (Nv α)} {x y z : Nv α} {i : Nat} (hx : P[i]? = some x) (h : z ∈ P.set i y) : z = y ∨ ∃ j, j ≠ i ∧ P[j]? = some z := by
  obtain ⟨j, hj⟩ := List.mem_iff_getElem?.1 h
  rcases at_set hx hj with ⟨-, e⟩ | ⟨e, hz⟩
  · exact .inl e
  · exact .inr ⟨j, e, hz⟩
theorem nodeCells_set {α : Type} (P : List (Nv α)) (i : Nat) (x y : Nv α) (h : P[i]? = some x) : nodeCells (P.set i y) = ((((nodeCells P).set (i * 4) y.kv).set (i * 4 + 1) y.rv).set (i * 4 + 2) y.cv).set (i * 4 + 3) (.bool y.n.leaf) := by
  induction P generalizing i with
  | nil => simp at h
  | cons z r ih =>
    cases i with
    | zero => simp [nodeCells]
    | succ i =>
      have := ih i (by simpa using h)
      rw [List.set_cons_succ, nodeCells, this, nodeCells, show (i + 1) * 4 = i * 4 + 1 + 1 + 1 + 1 by omega]
      simp [List.set_cons_succ]
/-- A value made anew, or lying where the old one lay, is apart from what the old one was apart from. -/
def Newer (w : World) (u v : Value) : Prop := u.ownBlock = v.ownBlock ∨ ∃ g, u.ownBlock = some g ∧ w.heap.size ≤ g
theorem Newer.sep {w : World} {u v z : Value} {B : Nat} {e : TypeId} {s n : Nat} {xs : List Value} (h : Newer w u v) (hz : w.ownsRow B e s z n xs) (hs : Sep v z) : Sep u z := by
  rcases h with h | ⟨g, h, hg⟩
  · unfold Sep; rw [h]; exact hs
  · refine .inr fun e => ?_
    have := (World.ownsRow.lt hz g (by rw [← e, h])).2
    omega
theorem set_same (l : List Value) (i : Nat) (u : Value) (h : l[i]? = some u) : l.set i u = l := by
  obtain ⟨hi, e⟩ := List.getElem?_eq_some_iff.1 h
  rw [← e]; exact List.set_getElem_self hi
/-- A node's keys lie anew. -/
theorem OwnT.keys {α : Type} {K : Ks α} {B : Nat} {w w1 : World} {nb cap : Nat} {fv u : Value} {P : List (Nv α)} {F : List Int} {i : Nat} {x : Nv α} {ks : List α} (h : OwnT K B w (.slice (some ⟨nb, 0, none⟩) P.length cap) fv P F) (hx : P[i]? = some x)
    (hg : w.grownBy w1 x.kv.ownBlock) (hu : OwnS B w1 u (ks.map K.s)) (hn : Newer w u x.kv) (hl : ks.length ≤ 1000) :
    OwnT K B (w1.setCell ⟨nb, i * 4, none⟩ u) (.slice (some ⟨nb, 0, none⟩) P.length cap) fv (P.set i ⟨u, x.rv, x.cv, ⟨ks, x.n.rows, x.n.kids, x.n.leaf⟩⟩) F := by
  have hxm := List.mem_of_getElem? hx
  have hxo := h.ns.each x hxm
  have hr1 := World.ownsRow.kept h.ns.row hg (own_apart h.ns.row hxo.1 (by decide))
  obtain ⟨cur, hcur⟩ : ∃ cur, Blc w1 nb 53 cur := by
    rcases hr1.2 with ⟨e, -⟩ | ⟨g, c, cur, e, -, hg, -⟩
    · cases e
    · obtain ⟨rfl, -⟩ : nb = g ∧ cap = c := by simpa using e
      exact ⟨cur, hg⟩
  obtain ⟨c0, c1, c2, c3⟩ := nodeCells_at P i x hx
  have hi : i < P.length := (List.getElem?_eq_some_iff.1 hx).1
  refine ⟨⟨?_, ?_, ?_, ?_, ?_, ?_, ?_⟩, ?_, ?_⟩
  · have hst := (World.ownsRow.stored hr1 (i * 4) u).1
    rw [List.length_set, nodeCells_set P i x _ hx]
    rw [set_same _ (i * 4 + 3) _ (by rw [List.getElem?_set_ne (by omega), List.getElem?_set_ne (by omega), List.getElem?_set_ne (by omega)]; exact c3), set_same _ (i * 4 + 2) _ (by rw [List.getElem?_set_ne (by omega), List.getElem?_set_ne (by omega)]; exact c2), set_same _ (i * 4 + 1) _ (by rw [List.getElem?_set_ne (by omega)]; exact c1)]
    exact hst
  · intro z hz
    rcases mem_set hx hz with rfl | ⟨j, hj, hz⟩
    · exact ⟨own_set hu hcur (by decide) _ _, own_set (World.ownsRow.kept hxo.2.1 hg (own_apart hxo.2.1 hxo.1 (by decide))) hcur (by decide) _ _, own_set (World.ownsRow.kept hxo.2.2.1 hg (own_apart hxo.2.2.1 hxo.1 (by decide))) hcur (by decide) _ _, hxo.2.2.2.1, hl, hxo.2.2.2.2.2⟩
    · have hzo := h.ns.each z (List.mem_of_getElem? hz)
      exact ⟨own_set (World.ownsRow.kept hzo.1 hg (h.ns.ks j i z x hz hx hj)) hcur (by decide) _ _, own_set (World.ownsRow.kept hzo.2.1 hg (own_apart hzo.2.1 hxo.1 (by decide))) hcur (by decide) _ _, own_set (World.ownsRow.kept hzo.2.2.1 hg (own_apart hzo.2.2.1 hxo.1 (by decide))) hcur (by decide) _ _, hzo.2.2.2⟩
  · rw [List.length_set]; exact h.ns.len
  · intro a b y z hy hz hne
    rcases at_set hx hy with ⟨rfl, rfl⟩ | ⟨ha, hy2⟩ <;> rcases at_set hx hz with ⟨rfl, rfl⟩ | ⟨hb, hz2⟩
    · exact (hne rfl).elim
    · exact hn.sep (h.ns.each z (List.mem_of_getElem? hz2)).1 (h.ns.ks _ _ x z hx hz2 hne)
    · exact (hn.sep (h.ns.each y (List.mem_of_getElem? hy2)).1 (h.ns.ks _ _ x y hx hy2 hne.symm)).symm
    · exact h.ns.ks _ _ y z hy2 hz2 hne
  · intro a b y z hy hz hne
    rcases at_set hx hy with ⟨rfl, rfl⟩ | ⟨ha, hy2⟩ <;> rcases at_set hx hz with ⟨rfl, rfl⟩ | ⟨hb, hz2⟩
    · exact (hne rfl).elim
    · exact h.ns.rs _ _ x z hx hz2 hne
    · exact h.ns.rs _ _ y x hy2 hx hne
    · exact h.ns.rs _ _ y z hy2 hz2 hne
  · intro a b y z hy hz hne
    rcases at_set hx hy with ⟨rfl, rfl⟩ | ⟨ha, hy2⟩ <;> rcases at_set hx hz with ⟨rfl, rfl⟩ | ⟨hb, hz2⟩
    · exact (hne rfl).elim
    · exact h.ns.cs _ _ x z hx hz2 hne
    · exact h.ns.cs _ _ y x hy2 hx hne
    · exact h.ns.cs _ _ y z hy2 hz2 hne
  · intro a b y z hy hz hne
    rcases at_set hx hy with ⟨rfl, rfl⟩ | ⟨ha, hy2⟩ <;> rcases at_set hx hz with ⟨rfl, rfl⟩ | ⟨hb, hz2⟩
    · exact (hne rfl).elim
    · exact h.ns.rc _ _ x z hx hz2 hne
    · exact h.ns.rc _ _ y x hy2 hx hne
    · exact h.ns.rc _ _ y z hy2 hz2 hne
  · exact own_set (World.ownsRow.kept h.fr hg (own_apart h.fr hxo.1 (by decide))) hcur (by decide) _ _
  · intro z hz
    rcases mem_set hx hz with rfl | ⟨j, -, hz⟩
    · exact h.fs x hxm
    · exact h.fs z (List.mem_of_getElem? hz)

/-- A node's rows lie anew. -/
theorem OwnT.rows {α : Type} {K : Ks α} {B : Nat} {w w1 : World} {nb cap : Nat} {fv u : Value} {P : List (Nv α)} {F : List Int} {i : Nat} {x : Nv α} {rs : List Int} (h : OwnT K B w (.slice (some ⟨nb, 0, none⟩) P.length cap) fv P F) (hx : P[i]? = some x)
    (hg : w.grownBy w1 x.rv.ownBlock) (hu : OwnI B w1 u rs) (hn : Newer w u x.rv) (hl : rs.length ≤ 1000) :
    OwnT K B (w1.setCell ⟨nb, i * 4 + 1, none⟩ u) (.slice (some ⟨nb, 0, none⟩) P.length cap) fv (P.set i ⟨x.kv, u, x.cv, ⟨x.n.keys, rs, x.n.kids, x.n.leaf⟩⟩) F := by
  have hxm := List.mem_of_getElem? hx
  have hxo := h.ns.each x hxm
  have hr1 := World.ownsRow.kept h.ns.row hg (own_apart h.ns.row hxo.2.1 (by decide))
  obtain ⟨cur, hcur⟩ : ∃ cur, Blc w1 nb 53 cur := by
    rcases hr1.2 with ⟨e, -⟩ | ⟨g, c, cur, e, -, hg, -⟩
    · cases e
    · obtain ⟨rfl, -⟩ : nb = g ∧ cap = c := by simpa using e
      exact ⟨cur, hg⟩
  obtain ⟨c0, c1, c2, c3⟩ := nodeCells_at P i x hx
  have hi : i < P.length := (List.getElem?_eq_some_iff.1 hx).1
  refine ⟨⟨?_, ?_, ?_, ?_, ?_, ?_, ?_⟩, ?_, ?_⟩
  · have hst := (World.ownsRow.stored hr1 (i * 4 + 1) u).1
    rw [List.length_set, nodeCells_set P i x _ hx]
    rw [set_same _ (i * 4 + 3) _ (by rw [List.getElem?_set_ne (by omega), List.getElem?_set_ne (by omega), List.getElem?_set_ne (by omega)]; exact c3), set_same _ (i * 4 + 2) _ (by rw [List.getElem?_set_ne (by omega), List.getElem?_set_ne (by omega)]; exact c2), set_same _ (i * 4) _ c0]
    exact hst
  · intro z hz
    rcases mem_set hx hz with rfl | ⟨j, hj, hz⟩
    · exact ⟨own_set (World.ownsRow.kept hxo.1 hg (own_apart hxo.1 hxo.2.1 (by decide))) hcur (by decide) _ _, own_set hu hcur (by decide) _ _, own_set (World.ownsRow.kept hxo.2.2.1 hg hxo.2.2.2.1.symm) hcur (by decide) _ _, hn.sep hxo.2.2.1 hxo.2.2.2.1, hxo.2.2.2.2.1, hl, hxo.2.2.2.2.2.2⟩
    · have hzo := h.ns.each z (List.mem_of_getElem? hz)
      exact ⟨own_set (World.ownsRow.kept hzo.1 hg (own_apart hzo.1 hxo.2.1 (by decide))) hcur (by decide) _ _, own_set (World.ownsRow.kept hzo.2.1 hg (h.ns.rs j i z x hz hx hj)) hcur (by decide) _ _, own_set (World.ownsRow.kept hzo.2.2.1 hg (h.ns.rc i j x z hx hz (fun e => hj e.symm)).symm) hcur (by decide) _ _, hzo.2.2.2⟩
  · rw [List.length_set]; exact h.ns.len
  · intro a b y z hy hz hne
    rcases at_set hx hy with ⟨rfl, rfl⟩ | ⟨ha, hy2⟩ <;> rcases at_set hx hz with ⟨rfl, rfl⟩ | ⟨hb, hz2⟩
    · exact (hne rfl).elim
    · exact h.ns.ks _ _ x z hx hz2 hne
    · exact h.ns.ks _ _ y x hy2 hx hne
    · exact h.ns.ks _ _ y z hy2 hz2 hne
  · intro a b y z hy hz hne
    rcases at_set hx hy with ⟨rfl, rfl⟩ | ⟨ha, hy2⟩ <;> rcases at_set hx hz with ⟨rfl, rfl⟩ | ⟨hb, hz2⟩
    · exact (hne rfl).elim
    · exact hn.sep (h.ns.each z (List.mem_of_getElem? hz2)).2.1 (h.ns.rs _ _ x z hx hz2 hne)
    · exact (hn.sep (h.ns.each y (List.mem_of_getElem? hy2)).2.1 (h.ns.rs _ _ x y hx hy2 hne.symm)).symm
    · exact h.ns.rs _ _ y z hy2 hz2 hne
  · intro a b y z hy hz hne
    rcases at_set hx hy with ⟨rfl, rfl⟩ | ⟨ha, hy2⟩ <;> rcases at_set hx hz with ⟨rfl, rfl⟩ | ⟨hb, hz2⟩
    · exact (hne rfl).elim
    · exact h.ns.cs _ _ x z hx hz2 hne
    · exact h.ns.cs _ _ y x hy2 hx hne
    · exact h.ns.cs _ _ y z hy2 hz2 hne
  · intro a b y z hy hz hne
    rcases at_set hx hy with ⟨rfl, rfl⟩ | ⟨ha, hy2⟩ <;> rcases at_set hx hz with ⟨rfl, rfl⟩ | ⟨hb, hz2⟩
    · exact (hne rfl).elim
    · exact hn.sep (h.ns.each z (List.mem_of_getElem? hz2)).2.2.1 (h.ns.rc _ _ x z hx hz2 hne)
    · exact h.ns.rc _ _ y x hy2 hx hne
    · exact h.ns.rc _ _ y z hy2 hz2 hne
  · exact own_set (World.ownsRow.kept h.fr hg (h.fs x hxm).1) hcur (by decide) _ _
  · intro z hz
    rcases mem_set hx hz with rfl | ⟨j, -, hz⟩
    · exact ⟨(hn.sep h.fr (h.fs x hxm).1.symm).symm, (h.fs x hxm).2⟩
    · exact h.fs z (List.mem_of_getElem? hz)

end Go.Proofs.YtaophiknldkfdaaGreatDoor
/- Contracts of package tree: isOver. -/
namespace Go.Proofs.YtaophiknldkfdaaGreatDoor
open Go.RowKit

def overB (n : Nat) : Bool := decide (4 < n)
set_option maxHeartbeats 400000 in
theorem isOver_any (w : World) (kp : Option Addr) (kl kc : Nat) (rv cv : Value) (leaf : Bool) :
    Calls Tryz.prog 49 #[.agg #[.slice kp kl kc, rv, cv, .bool leaf]] w fun e w' => e = .returned (.bool (overB kl)) ∧ Below w.heap.size w w' := by
  by_cases h : 4 < kl
  · have HE : Hid (true = overB kl) := Lib.hid (by unfold overB; simp [h])
    have h2 : (4 : Int) < (kl : Int) := by omega
    go_enter Tryz.func49, Tryz.ntmps49
    go_wp2
    go_ret
    exact ⟨ret_bool HE.out, by (repeat (first | exact Below.refl _ _ | assumption | refine nw_more ?_ _ _ | refine nw_alloc ?_ _ | refine nw_drew ?_ | refine nw_drewN ?_ _ | refine nw_set ?_ (by first | (simp; done) | (simp; omega) | omega) _))⟩
  · have HE : Hid (false = overB kl) := Lib.hid (by unfold overB; simp [h])
    have h2 : ¬ (4 : Int) < (kl : Int) := by omega
    go_enter Tryz.func49, Tryz.ntmps49
    go_wp2
    go_ret
    exact ⟨ret_bool HE.out, by (repeat (first | exact Below.refl _ _ | assumption | refine nw_more ?_ _ _ | refine nw_alloc ?_ _ | refine nw_drew ?_ | refine nw_drewN ?_ _ | refine nw_set ?_ (by first | (simp; done) | (simp; omega) | omega) _))⟩
end Go.Proofs.YtaophiknldkfdaaGreatDoor
/- A tree that a call owns: a node's kids lie anew. -/
namespace Go.Proofs.YtaophiknldkfdaaGreatDoor
open Go.RowKit

/-- A node's kids lie anew. -/
theorem OwnT.kids {α : Type} {K : Ks α} {B : Nat} {w w1 : World} {nb cap : Nat} {fv u : Value} {P : List (Nv α)} {F : List Int} {i : Nat} {x : Nv α} {cs : List Int} (h : OwnT K B w (.slice (some ⟨nb, 0, none⟩) P.length cap) fv P F) (hx : P[i]? = some x)
    (hg : w.grownBy w1 x.cv.ownBlock) (hu : OwnI B w1 u cs) (hn : Newer w u x.cv) (hl : cs.length ≤ 1000) :
    OwnT K B (w1.setCell ⟨nb, i * 4 + 2, none⟩ u) (.slice (some ⟨nb, 0, none⟩) P.length cap) fv (P.set i ⟨x.kv, x.rv, u, ⟨x.n.keys, x.n.rows, cs, x.n.leaf⟩⟩) F := by
  have hxm := List.mem_of_getElem? hx
  have hxo := h.ns.each x hxm
  have hr1 := World.ownsRow.kept h.ns.row hg (own_apart h.ns.row hxo.2.2.1 (by decide))
  obtain ⟨cur, hcur⟩ : ∃ cur, Blc w1 nb 53 cur := by
    rcases hr1.2 with ⟨e, -⟩ | ⟨g, c, cur, e, -, hg, -⟩
    · cases e
    · obtain ⟨rfl, -⟩ : nb = g ∧ cap = c := by simpa using e
      exact ⟨cur, hg⟩
  obtain ⟨c0, c1, c2, c3⟩ := nodeCells_at P i x hx
  have hi : i < P.length := (List.getElem?_eq_some_iff.1 hx).1
  refine ⟨⟨?_, ?_, ?_, ?_, ?_, ?_, ?_⟩, ?_, ?_⟩
  · have hst := (World.ownsRow.stored hr1 (i * 4 + 2) u).1
    rw [List.length_set, nodeCells_set P i x _ hx]
    rw [set_same _ (i * 4 + 3) _ (by rw [List.getElem?_set_ne (by omega), List.getElem?_set_ne (by omega), List.getElem?_set_ne (by omega)]; exact c3), set_same _ (i * 4) _ c0, set_same _ (i * 4 + 1) _ c1]
    exact hst
  · intro z hz
    rcases mem_set hx hz with rfl | ⟨j, hj, hz⟩
    · exact ⟨own_set (World.ownsRow.kept hxo.1 hg (own_apart hxo.1 hxo.2.2.1 (by decide))) hcur (by decide) _ _, own_set (World.ownsRow.kept hxo.2.1 hg hxo.2.2.2.1) hcur (by decide) _ _, own_set hu hcur (by decide) _ _, (hn.sep hxo.2.1 hxo.2.2.2.1.symm).symm, hxo.2.2.2.2.1, hxo.2.2.2.2.2.1, hl⟩
    · have hzo := h.ns.each z (List.mem_of_getElem? hz)
      exact ⟨own_set (World.ownsRow.kept hzo.1 hg (own_apart hzo.1 hxo.2.2.1 (by decide))) hcur (by decide) _ _, own_set (World.ownsRow.kept hzo.2.1 hg (h.ns.rc j i z x hz hx hj)) hcur (by decide) _ _, own_set (World.ownsRow.kept hzo.2.2.1 hg (h.ns.cs j i z x hz hx hj)) hcur (by decide) _ _, hzo.2.2.2⟩
  · rw [List.length_set]; exact h.ns.len
  · intro a b y z hy hz hne
    rcases at_set hx hy with ⟨rfl, rfl⟩ | ⟨ha, hy2⟩ <;> rcases at_set hx hz with ⟨rfl, rfl⟩ | ⟨hb, hz2⟩
    · exact (hne rfl).elim
    · exact h.ns.ks _ _ x z hx hz2 hne
    · exact h.ns.ks _ _ y x hy2 hx hne
    · exact h.ns.ks _ _ y z hy2 hz2 hne
  · intro a b y z hy hz hne
    rcases at_set hx hy with ⟨rfl, rfl⟩ | ⟨ha, hy2⟩ <;> rcases at_set hx hz with ⟨rfl, rfl⟩ | ⟨hb, hz2⟩
    · exact (hne rfl).elim
    · exact h.ns.rs _ _ x z hx hz2 hne
    · exact h.ns.rs _ _ y x hy2 hx hne
    · exact h.ns.rs _ _ y z hy2 hz2 hne
  · intro a b y z hy hz hne
    rcases at_set hx hy with ⟨rfl, rfl⟩ | ⟨ha, hy2⟩ <;> rcases at_set hx hz with ⟨rfl, rfl⟩ | ⟨hb, hz2⟩
    · exact (hne rfl).elim
    · exact hn.sep (h.ns.each z (List.mem_of_getElem? hz2)).2.2.1 (h.ns.cs _ _ x z hx hz2 hne)
    · exact (hn.sep (h.ns.each y (List.mem_of_getElem? hy2)).2.2.1 (h.ns.cs _ _ x y hx hy2 hne.symm)).symm
    · exact h.ns.cs _ _ y z hy2 hz2 hne
  · intro a b y z hy hz hne
    rcases at_set hx hy with ⟨rfl, rfl⟩ | ⟨ha, hy2⟩ <;> rcases at_set hx hz with ⟨rfl, rfl⟩ | ⟨hb, hz2⟩
    · exact (hne rfl).elim
    · exact h.ns.rc _ _ x z hx hz2 hne
    · exact (hn.sep (h.ns.each y (List.mem_of_getElem? hy2)).2.1 (h.ns.rc _ _ y x hy2 hx hne).symm).symm
    · exact h.ns.rc _ _ y z hy2 hz2 hne
  · exact own_set (World.ownsRow.kept h.fr hg (h.fs x hxm).2) hcur (by decide) _ _
  · intro z hz
    rcases mem_set hx hz with rfl | ⟨j, -, hz⟩
    · exact ⟨(h.fs x hxm).1, (hn.sep h.fr (h.fs x hxm).2.symm).symm⟩
    · exact h.fs z (List.mem_of_getElem? hz)

end Go.Proofs.YtaophiknldkfdaaGreatDoor
/- Contracts of package tree: put. -/
namespace Go.Proofs.YtaophiknldkfdaaGreatDoor
open Go.RowKit

theorem ins_rows {α : Type} {K : Ks α} {B : Nat} {W w2 : World} {nb n cap rc : Nat} {rp : Option Addr} {fv u : Value} {P : List (Nv α)} {F : List Int} {i m : Nat} {x : Nv α} {row : Int} (h : OwnT K B W (.slice (some ⟨nb, 0, none⟩) n cap) fv P F) (hn : P.length = n) (hx : P[i]? = some x) (hB : B ≤ W.heap.size) (hm : m ≤ x.n.rows.length) (hl : x.n.rows.length + 1 ≤ 1000) (hrv : x.rv = .slice rp x.n.rows.length rc)
    (hp : InsPost B 3 (W.alloc (Obj.cells #[Value.int .i64 row] 3)) (.slice rp x.n.rows.length rc) (x.n.rows.map (Value.int .i64)) m (.int .i64 row) w2 u) :
    (∃ up uc, u = .slice up (x.n.rows.length + 1) uc) ∧ Step B W (w2.setCell ⟨nb, i * 4 + 1, none⟩ u) ∧ OwnT K B (w2.setCell ⟨nb, i * 4 + 1, none⟩ u) (.slice (some ⟨nb, 0, none⟩) n cap) fv (P.set i ⟨x.kv, u, x.cv, ⟨x.n.keys, x.n.rows.take m ++ row :: x.n.rows.drop m, x.n.kids, x.n.leaf⟩⟩) F ∧
      w2.cell? ⟨nb, i * 4 + 1, none⟩ = some (.slice rp x.n.rows.length rc) ∧ w2.frozen? ⟨nb, i * 4 + 1, none⟩ = false ∧ Lt nb w2.heap.size := by
  subst hn
  obtain ⟨h1, h2, h3⟩ := hp
  have hxo := h.ns.each x (List.mem_of_getElem? hx)
  have hgr : W.grownBy w2 x.rv.ownBlock := gr_trans (b := W.alloc (Obj.cells #[Value.int .i64 row] 3)) ⟨rfl, rfl, rfl, by simp, fun k hk _ => Below.heap_alloc W _ k hk⟩ (by rw [hrv]; exact h2)
  have hnode := World.ownsRow.kept h.ns.row hgr (own_apart h.ns.row hxo.2.1 (by decide))
  have hcl := World.ownsRow.cells hnode (g := nb) rfl
  obtain ⟨-, a1, -, -⟩ := nodeCells_at P i x hx
  have b1 := hcl _ _ a1
  rw [cell_add, Nat.zero_add, hrv] at b1
  have hblk : ∀ g, x.rv.ownBlock = some g → B ≤ g := fun g hg => (World.ownsRow.lt hxo.2.1 g hg).1
  have hnb : B ≤ nb := (World.ownsRow.lt h.ns.row nb rfl).1
  refine ⟨?_, ⟨?_, ?_, (oth_grown hxo.2.1 hgr).trans (KeepsOthers.setCell _ _ _)⟩, ?_, b1, World.ownsRow.frozenAt hnode _, (World.ownsRow.lt hnode nb rfl).2⟩
  · rcases h1.2 with ⟨-, h0⟩ | ⟨g, c, cur, e, -⟩
    · omega
    · exact ⟨_, _, by rw [e, List.length_map]⟩
  · exact (Below.grown (Below.refl B W) hgr hB hblk).setCell hnb _
  · intro g T cs hb hT1 hT2 hT3
    exact (Blc.grown hb hgr (not_own hxo.2.1 hb hT3)).far (a := ⟨nb, i * 4 + 1, none⟩) (fun e => not_own h.ns.row hb hT1 (by rw [e]; rfl)) _
  · refine OwnT.rows h hx hgr ?_ ?_ (by simp; omega)
    · have h4 := h1
      rw [← List.map_take, ← List.map_drop] at h4
      unfold OwnI
      have e1 : (x.n.rows.take m ++ row :: x.n.rows.drop m).length = (x.n.rows.map (Value.int .i64)).length + 1 := by simp; omega
      rw [e1]
      simpa using h4
    · rcases h3 with h3 | ⟨g, h3, hg⟩
      · exact .inl (by rw [h3, hrv])
      · exact .inr ⟨g, h3, by simp at hg; omega⟩

set_option maxHeartbeats 400000 in
theorem put_any {α : Type} (K : Ks α) (B : Nat) (w : World) (nb cap : Nat) (fv : Value) (P : List (Nv α)) (F : List Int) (i m : Nat) (x : Nv α) (k : α) (row : Int) (h : OwnT K B w (.slice (some ⟨nb, 0, none⟩) P.length cap) fv P F) (hB : B ≤ w.heap.size) (hx : P[i]? = some x) (hm : m ≤ x.n.keys.length) (hm2 : m ≤ x.n.rows.length) (hl : x.n.keys.length + 1 ≤ 1000) (hl2 : x.n.rows.length + 1 ≤ 1000) :
    Calls Tryz.prog 27 #[.pointer (some ⟨nb, i * 4, none⟩), .int .i64 m, .string (K.s k), .int .i64 row] w fun e w' => ∃ Q, e = .returned (.tuple #[]) ∧ OwnT K B w' (.slice (some ⟨nb, 0, none⟩) P.length cap) fv Q F ∧ ndsOf Q = (ndsOf P).set i ⟨x.n.keys.take m ++ k :: x.n.keys.drop m, x.n.rows.take m ++ row :: x.n.rows.drop m, x.n.kids, x.n.leaf⟩ ∧ Step B w w' := by
  have HT := Lib.hid h
  have HX := Lib.hid hx
  have hxn := h.ns.each x (List.mem_of_getElem? hx)
  have HXN := Lib.hid hxn
  have hcl := World.ownsRow.cells h.ns.row (g := nb) rfl
  obtain ⟨a0, a1, -, -⟩ := nodeCells_at P i x hx
  have b0 := hcl _ _ a0
  have b1 := hcl _ _ a1
  rw [cell_add, Nat.zero_add] at b0 b1
  have hfz := World.ownsRow.frozenAt h.ns.row (i * 4)
  have hfz1 := World.ownsRow.frozenAt h.ns.row (i * 4 + 1)
  have hlt : Lt nb w.heap.size := (World.ownsRow.lt h.ns.row nb rfl).2
  obtain ⟨kp, kc, hkv⟩ := hxn.1.form
  obtain ⟨rp, rc, hrv⟩ := hxn.2.1.slice
  obtain ⟨xs, hxs⟩ : ∃ xs, xs = (x.n.keys.map K.s).map Value.string := ⟨_, rfl⟩
  have hxl : xs.length = x.n.keys.length := by rw [hxs]; simp
  have hone : ∀ u ∈ xs, u.oneCell' = true := by
    intro u hu; rw [hxs] at hu; obtain ⟨a, -, rfl⟩ := List.mem_map.1 hu; rfl
  have HK1 : Hid ((w.alloc (Obj.cells #[Value.string (K.s k)] 9)).ownsRow B 9 1 (.slice kp x.n.keys.length kc) xs.length xs) := Lib.hid (by
    have h1 : w.ownsRow B 9 1 x.kv (x.n.keys.map K.s).length ((x.n.keys.map K.s).map Value.string) := hxn.1
    rw [← hxs, hkv] at h1
    rw [List.length_map] at h1
    rw [hxl]
    exact World.ownsRow.alloc h1 _)
  have HNE : Hid ((Value.slice kp x.n.keys.length kc).ownBlock ≠ some w.heap.size) := Lib.hid (by
    intro e
    have h1 : w.ownsRow B 9 1 x.kv (x.n.keys.map K.s).length ((x.n.keys.map K.s).map Value.string) := hxn.1
    have := (World.ownsRow.lt h1 w.heap.size (by rw [hkv, List.length_map]; exact e)).2
    omega)
  rw [hkv] at b0
  rw [hrv] at b1
  rw [List.length_map] at hkv
  have HKV := Lib.hid hkv
  have HRV := Lib.hid hrv
  have HXS := Lib.hid hxs
  have HON := Lib.hid hone
  have hr0 := h.ns.row
  have HR0 := Lib.hid hr0
  have HKS : Hid (∀ (w1 : World) (u : Value), InsPost B 9 (w.alloc (Obj.cells #[Value.string (K.s k)] 9)) (.slice kp x.n.keys.length kc) xs m (.string (K.s k)) w1 u → (∃ up uc, u = .slice up (x.n.keys.length + 1) uc) ∧ Step B w (w1.setCell ⟨nb, i * 4, none⟩ u) ∧ OwnT K B (w1.setCell ⟨nb, i * 4, none⟩ u) (.slice (some ⟨nb, 0, none⟩) P.length cap) fv (P.set i ⟨u, x.rv, x.cv, ⟨x.n.keys.take m ++ k :: x.n.keys.drop m, x.n.rows, x.n.kids, x.n.leaf⟩⟩) F ∧
      w1.cell? ⟨nb, i * 4, none⟩ = some (.slice kp x.n.keys.length kc) ∧ w1.frozen? ⟨nb, i * 4, none⟩ = false ∧ w1.cell? ⟨nb, i * 4 + 1, none⟩ = some (.slice rp x.n.rows.length rc) ∧ w1.frozen? ⟨nb, i * 4 + 1, none⟩ = false ∧ Lt nb w1.heap.size) := Lib.hid (by
    rintro w1 u ⟨h1, h2, h3⟩
    have hgr : w.grownBy w1 x.kv.ownBlock := gr_trans (b := w.alloc (Obj.cells #[Value.string (K.s k)] 9)) ⟨rfl, rfl, rfl, by simp, fun k hk _ => Below.heap_alloc w _ k hk⟩ (by rw [HKV.out]; exact h2)
    have hnode := World.ownsRow.kept HR0.out hgr (own_apart HR0.out HXN.out.1 (by decide))
    have hcl := World.ownsRow.cells hnode (g := nb) rfl
    obtain ⟨a0, a1, -, -⟩ := nodeCells_at P i x HX.out
    have b0 := hcl _ _ a0
    have b1 := hcl _ _ a1
    rw [cell_add, Nat.zero_add, HKV.out] at b0
    rw [cell_add, Nat.zero_add, HRV.out] at b1
    have hblk : ∀ g, x.kv.ownBlock = some g → B ≤ g := fun g hg => (World.ownsRow.lt HXN.out.1 g hg).1
    have hnb : B ≤ nb := (World.ownsRow.lt HR0.out nb rfl).1
    refine ⟨?_, ⟨?_, ?_, (oth_grown HXN.out.1 hgr).trans (KeepsOthers.setCell _ _ _)⟩, ?_, b0, World.ownsRow.frozenAt hnode _, b1, World.ownsRow.frozenAt hnode _, (World.ownsRow.lt hnode nb rfl).2⟩
    · rcases h1.2 with ⟨-, h0⟩ | ⟨g, c, cur, e, -⟩
      · omega
      · exact ⟨_, _, by rw [e, hxl]⟩
    · exact (Below.grown (Below.refl B w) hgr hB hblk).setCell hnb _
    · intro g T cs hb hT1 hT2 hT3
      exact (Blc.grown hb hgr (not_own HXN.out.1 hb hT2)).far (a := ⟨nb, i * 4, none⟩) (fun e => not_own HR0.out hb hT1 (by rw [e]; rfl)) _
    · refine OwnT.keys HT.out HX.out hgr ?_ ?_ (by simp; omega)
      · have h4 := h1
        rw [HXS.out, ← List.map_take, ← List.map_take, ← List.map_drop, ← List.map_drop] at h4
        unfold OwnS
        have e1 : ((x.n.keys.take m ++ k :: x.n.keys.drop m).map K.s).length = ((x.n.keys.map K.s).map Value.string).length + 1 := by simp; omega
        rw [e1]
        simpa using h4
      · rcases h3 with h3 | ⟨g, h3, hg⟩
        · exact .inl (by rw [h3, HKV.out])
        · exact .inr ⟨g, h3, by simp at hg; omega⟩)
  clear h hx hxn hcl a0 a1 hr0 hone hxs hkv hrv
  go_enter Tryz.func27, Tryz.ntmps27
  go_wp2_with (first | (go_at_call 46; refine (insS_own B _ _ xs m w.heap.size 1 (.string (K.s k)) 9 HK1.out (by simp; omega) (by omega) (by omega) HON.out rfl (Blc.new w _ _) HNE.out).mono ?_; rintro e w1 ⟨u, rfl, hp⟩; obtain ⟨⟨up, uc, rfl⟩, hst, hot, hc0, hf0, hc1, hf1, hlt1⟩ := HKS.out w1 u hp; clear hp))
  generalize HY : (⟨.slice up (x.n.keys.length + 1) uc, x.rv, x.cv, ⟨x.n.keys.take m ++ k :: x.n.keys.drop m, x.n.rows, x.n.kids, x.n.leaf⟩⟩ : Nv α) = y at hot
  have hyr : y.n.rows = x.n.rows ∧ y.rv = x.rv := by rw [← HY]; exact ⟨rfl, rfl⟩
  have hxi : i < P.length := (List.getElem?_eq_some_iff.1 HX.out).1
  have hyP : (P.set i y)[i]? = some y := by rw [List.getElem?_set_self hxi]
  have hyo := hot.ns.each y (List.mem_of_getElem? hyP)
  have HBW : Hid (B ≤ (w1.setCell ⟨nb, i * 4, none⟩ (.slice up (x.n.keys.length + 1) uc)).heap.size) := Lib.hid (Nat.le_trans hB hst.1.size)
  have HR1 : Hid ((w1.setCell ⟨nb, i * 4, none⟩ (.slice up (x.n.keys.length + 1) uc)).ownsRow B 3 1 (.slice rp x.n.rows.length rc) (x.n.rows.map (Value.int .i64)).length (x.n.rows.map (Value.int .i64))) := Lib.hid (by
    have h1 := hyo.2.1
    rw [hyr.1, hyr.2, HRV.out] at h1
    rw [List.length_map]; exact h1)
  have HOT := Lib.hid hot
  have HST := Lib.hid hst
  have HNE2 : Hid ((Value.slice rp x.n.rows.length rc).ownBlock ≠ some w1.heap.size) := Lib.hid (by
    intro e
    have := (World.ownsRow.lt HR1.out _ e).2
    simp at this)
  have HPS : Hid (∀ (w2 : World) (u : Value), InsPost B 3 ((w1.setCell ⟨nb, i * 4, none⟩ (.slice up (x.n.keys.length + 1) uc)).alloc (Obj.cells #[Value.int .i64 row] 3)) (.slice rp x.n.rows.length rc) (x.n.rows.map (Value.int .i64)) m (.int .i64 row) w2 u → (∃ up uc, u = .slice up (x.n.rows.length + 1) uc) ∧ Step B (w1.setCell ⟨nb, i * 4, none⟩ (.slice up (x.n.keys.length + 1) uc)) (w2.setCell ⟨nb, i * 4 + 1, none⟩ u) ∧ OwnT K B (w2.setCell ⟨nb, i * 4 + 1, none⟩ u) (.slice (some ⟨nb, 0, none⟩) P.length cap) fv ((P.set i y).set i ⟨y.kv, u, y.cv, ⟨y.n.keys, x.n.rows.take m ++ row :: x.n.rows.drop m, y.n.kids, y.n.leaf⟩⟩) F ∧
      w2.cell? ⟨nb, i * 4 + 1, none⟩ = some (.slice rp x.n.rows.length rc) ∧ w2.frozen? ⟨nb, i * 4 + 1, none⟩ = false ∧ Lt nb w2.heap.size) := Lib.hid (fun w2 u hp => by
    have := ins_rows (m := m) (row := row) (u := u) (w2 := w2) (rp := rp) (rc := rc) HOT.out (by simp) hyP HBW.out (by rw [hyr.1]; exact hm2) (by rw [hyr.1]; exact hl2) (by rw [hyr.1, hyr.2, HRV.out]) (by rw [hyr.1]; exact hp)
    rw [hyr.1] at this
    exact this)
  have HYY := Lib.hid HY
  clear hot hst hyo hyr hyP HY
  go_wp2_with (first | (go_at_call 47; refine (insI_own B _ _ (x.n.rows.map (Value.int .i64)) m w1.heap.size 1 (.int .i64 row) 3 (World.ownsRow.alloc HR1.out _) (by have := HBW.out; simp at this; simp; omega) (by simp; omega) (by simp; omega) (newsI_one _) rfl (Blc.newAt _ _ _ (by simp)) HNE2.out).mono ?_; rintro e w2 ⟨u, rfl, hp⟩; obtain ⟨⟨vp, vc, rfl⟩, hst2, hot2, hd1, hg1, hlt2⟩ := HPS.out w2 u hp; clear hp))
  go_end0
  refine ⟨_, rfl, hot2, ?_, HST.out.trans hst2⟩
  rw [List.set_set, ndsOf, List.map_set]
  rw [← HYY.out]
  rfl
end Go.Proofs.YtaophiknldkfdaaGreatDoor
/- A tree that a call owns: a node set anew, a node more. -/
namespace Go.Proofs.YtaophiknldkfdaaGreatDoor
open Go.RowKit

/-- y's lists are apart from all of P but number i's, and from the free numbers. -/
structure ApartN {α : Type} (fv : Value) (P : List (Nv α)) (i : Nat) (y : Nv α) : Prop where
  ks : ∀ j z, P[j]? = some z → j ≠ i → Sep y.kv z.kv
  rs : ∀ j z, P[j]? = some z → j ≠ i → Sep y.rv z.rv
  cs : ∀ j z, P[j]? = some z → j ≠ i → Sep y.cv z.cv
  rc : ∀ j z, P[j]? = some z → j ≠ i → Sep y.rv z.cv
  cr : ∀ j z, P[j]? = some z → j ≠ i → Sep z.rv y.cv
  fr : Sep fv y.rv
  fc : Sep fv y.cv
theorem ApartN.nil {α : Type} (fv : Value) (P : List (Nv α)) (i : Nat) (n : Nd α) : ApartN fv P i ⟨.slice none 0 0, .slice none 0 0, .slice none 0 0, n⟩ :=
  ⟨fun _ _ _ _ => Sep.none _, fun _ _ _ _ => Sep.none _, fun _ _ _ _ => Sep.none _, fun _ _ _ _ => Sep.none _, fun _ _ _ _ => (Sep.none _).symm, (Sep.none _).symm, (Sep.none _).symm⟩
/-- Lists made behind a world in which P was owned. -/
theorem ApartN.late {α : Type} {K : Ks α} {B G : Nat} {w X : World} {v fv : Value} {P : List (Nv α)} {F : List Int} {y : Nv α} (h : OwnT K B w v fv P F) (hG : w.heap.size ≤ G) (hy : OwnNd K G X y) (i : Nat) : ApartN fv P i y := by
  have hm : ∀ {j : Nat} {z : Nv α}, P[j]? = some z → OwnNd K B w z := fun hz => h.ns.each _ (List.mem_of_getElem? hz)
  exact ⟨fun _ _ hz _ => (sep_late (hm hz).1 hG hy.1).symm, fun _ _ hz _ => (sep_late (hm hz).2.1 hG hy.2.1).symm, fun _ _ hz _ => (sep_late (hm hz).2.2.1 hG hy.2.2.1).symm, fun _ _ hz _ => (sep_late (hm hz).2.2.1 hG hy.2.1).symm, fun _ _ hz _ => sep_late (hm hz).2.1 hG hy.2.2.1, sep_late h.fr hG hy.2.1, sep_late h.fr hG hy.2.2.1⟩

theorem OwnNd.set {α : Type} {K : Ks α} {B : Nat} {w : World} {x : Nv α} (h : OwnNd K B w x) {b : Nat} {cs : Array Value} (hb : Blc w b 53 cs) (i : Nat) (u : Value) : OwnNd K B (w.setCell ⟨b, i, none⟩ u) x :=
  ⟨own_set h.1 hb (by decide) i u, own_set h.2.1 hb (by decide) i u, own_set h.2.2.1 hb (by decide) i u, h.2.2.2⟩
theorem OwnT.node {α : Type} {K : Ks α} {B : Nat} {w : World} {nb cap : Nat} {fv : Value} {P : List (Nv α)} {F : List Int} {i : Nat} {x y : Nv α} (h : OwnT K B w (.slice (some ⟨nb, 0, none⟩) P.length cap) fv P F) (hx : P[i]? = some x) (hy : OwnNd K B w y) (ha : ApartN fv P i y) :
    OwnT K B ((((w.setCell ⟨nb, i * 4, none⟩ y.kv).setCell ⟨nb, i * 4 + 1, none⟩ y.rv).setCell ⟨nb, i * 4 + 2, none⟩ y.cv).setCell ⟨nb, i * 4 + 3, none⟩ (.bool y.n.leaf)) (.slice (some ⟨nb, 0, none⟩) P.length cap) fv (P.set i y) F := by
  obtain ⟨cur, hcur⟩ : ∃ cur, Blc w nb 53 cur := by
    rcases h.ns.row.2 with ⟨e, -⟩ | ⟨g, c, cur, e, -, hg, -⟩
    · cases e
    · obtain ⟨rfl, -⟩ : nb = g ∧ cap = c := by simpa using e
      exact ⟨cur, hg⟩
  have s1 := hcur.set (i * 4) y.kv
  have s2 := s1.set (i * 4 + 1) y.rv
  have s3 := s2.set (i * 4 + 2) y.cv
  refine ⟨⟨?_, ?_, ?_, ?_, ?_, ?_, ?_⟩, ?_, ?_⟩
  · have t1 := (World.ownsRow.stored h.ns.row (i * 4) y.kv).1
    have t2 := (World.ownsRow.stored t1 (i * 4 + 1) y.rv).1
    have t3 := (World.ownsRow.stored t2 (i * 4 + 2) y.cv).1
    have t4 := (World.ownsRow.stored t3 (i * 4 + 3) (.bool y.n.leaf)).1
    rw [List.length_set, nodeCells_set P i x y hx]
    exact t4
  · intro z hz
    rcases mem_set hx hz with rfl | ⟨j, hj, hz⟩
    · exact (((hy.set hcur _ _).set s1 _ _).set s2 _ _).set s3 _ _
    · exact ((((h.ns.each z (List.mem_of_getElem? hz)).set hcur _ _).set s1 _ _).set s2 _ _).set s3 _ _
  · rw [List.length_set]; exact h.ns.len
  · intro a b p q hp hq hne
    rcases at_set hx hp with ⟨rfl, rfl⟩ | ⟨h1, hp2⟩ <;> rcases at_set hx hq with ⟨rfl, rfl⟩ | ⟨h2, hq2⟩
    · exact (hne rfl).elim
    · exact ha.ks _ _ hq2 hne.symm
    · exact (ha.ks _ _ hp2 hne).symm
    · exact h.ns.ks _ _ p q hp2 hq2 hne
  · intro a b p q hp hq hne
    rcases at_set hx hp with ⟨rfl, rfl⟩ | ⟨h1, hp2⟩ <;> rcases at_set hx hq with ⟨rfl, rfl⟩ | ⟨h2, hq2⟩
    · exact (hne rfl).elim
    · exact ha.rs _ _ hq2 hne.symm
    · exact (ha.rs _ _ hp2 hne).symm
    · exact h.ns.rs _ _ p q hp2 hq2 hne
  · intro a b p q hp hq hne
    rcases at_set hx hp with ⟨rfl, rfl⟩ | ⟨h1, hp2⟩ <;> rcases at_set hx hq with ⟨rfl, rfl⟩ | ⟨h2, hq2⟩
    · exact (hne rfl).elim
    · exact ha.cs _ _ hq2 hne.symm
    · exact (ha.cs _ _ hp2 hne).symm
    · exact h.ns.cs _ _ p q hp2 hq2 hne
  · intro a b p q hp hq hne
    rcases at_set hx hp with ⟨rfl, rfl⟩ | ⟨h1, hp2⟩ <;> rcases at_set hx hq with ⟨rfl, rfl⟩ | ⟨h2, hq2⟩
    · exact (hne rfl).elim
    · exact ha.rc _ _ hq2 hne.symm
    · exact ha.cr _ _ hp2 hne
    · exact h.ns.rc _ _ p q hp2 hq2 hne
  · exact own_set (own_set (own_set (own_set h.fr hcur (by decide) _ _) s1 (by decide) _ _) s2 (by decide) _ _) s3 (by decide) _ _
  · intro z hz
    rcases mem_set hx hz with rfl | ⟨j, -, hz⟩
    · exact ⟨ha.fr, ha.fc⟩
    · exact h.fs z (List.mem_of_getElem? hz)
/-- The free numbers lie anew. -/
theorem OwnT.free {α : Type} {K : Ks α} {B : Nat} {w w1 : World} {v fv u : Value} {P : List (Nv α)} {F F' : List Int} (h : OwnT K B w v fv P F) (hg : w.grownBy w1 fv.ownBlock) (hu : OwnI B w1 u F') (hn : Newer w u fv) : OwnT K B w1 v u P F' := by
  refine ⟨⟨World.ownsRow.kept h.ns.row hg (own_apart h.ns.row h.fr (by decide)), fun x hx => ?_, h.ns.len, h.ns.ks, h.ns.rs, h.ns.cs, h.ns.rc⟩, hu, fun x hx => ⟨hn.sep (h.ns.each x hx).2.1 (h.fs x hx).1, hn.sep (h.ns.each x hx).2.2.1 (h.fs x hx).2⟩⟩
  have hxo := h.ns.each x hx
  exact hxo.keep hg (own_apart hxo.1 h.fr (by decide)) (h.fs x hx).1.symm (h.fs x hx).2.symm
/-- A node more, behind an append. -/
theorem OwnT.snoc {α : Type} {K : Ks α} {B : Nat} {wr X w1 : World} {v v' fv : Value} {P : List (Nv α)} {F : List Int} {y : Nv α} (h : OwnT K B wr v fv P F) (hy : OwnNd K B X y) (ha : ApartN fv P P.length y) (hbel : Below wr.heap.size wr X)
    (hv : w1.ownsRow B 53 4 v' (P.length + 1) (nodeCells P ++ [y.kv, y.rv, y.cv, .bool y.n.leaf])) (hg : X.grownBy w1 v.ownBlock) (hl : P.length < 1000) : OwnT K B w1 v' fv (P ++ [y]) F := by
  have hvX := own_below h.ns.row hbel
  have hlt : ∀ {j : Nat} {z : Nv α}, P[j]? = some z → j ≠ P.length := fun hz => by have := (List.getElem?_eq_some_iff.1 hz).1; omega
  refine ⟨⟨?_, ?_, by rw [List.length_append]; simp; omega, ?_, ?_, ?_, ?_⟩, ?_, ?_⟩
  · rw [List.length_append, nodeCells_append]; exact hv
  · intro z hz
    rcases List.mem_append.1 hz with hz | hz
    · have hzX := (h.ns.each z hz).below hbel
      exact hzX.keep hg (own_apart hzX.1 hvX (by decide)) (own_apart hzX.2.1 hvX (by decide)) (own_apart hzX.2.2.1 hvX (by decide))
    · rw [List.mem_singleton] at hz
      subst hz
      exact hy.keep hg (own_apart hy.1 hvX (by decide)) (own_apart hy.2.1 hvX (by decide)) (own_apart hy.2.2.1 hvX (by decide))
  · intro a b p q hp hq hne
    rcases at_snoc hp with hp2 | ⟨rfl, rfl⟩ <;> rcases at_snoc hq with hq2 | ⟨rfl, rfl⟩
    · exact h.ns.ks _ _ p q hp2 hq2 hne
    · exact (ha.ks _ _ hp2 (hlt hp2)).symm
    · exact ha.ks _ _ hq2 (hlt hq2)
    · exact (hne rfl).elim
  · intro a b p q hp hq hne
    rcases at_snoc hp with hp2 | ⟨rfl, rfl⟩ <;> rcases at_snoc hq with hq2 | ⟨rfl, rfl⟩
    · exact h.ns.rs _ _ p q hp2 hq2 hne
    · exact (ha.rs _ _ hp2 (hlt hp2)).symm
    · exact ha.rs _ _ hq2 (hlt hq2)
    · exact (hne rfl).elim
  · intro a b p q hp hq hne
    rcases at_snoc hp with hp2 | ⟨rfl, rfl⟩ <;> rcases at_snoc hq with hq2 | ⟨rfl, rfl⟩
    · exact h.ns.cs _ _ p q hp2 hq2 hne
    · exact (ha.cs _ _ hp2 (hlt hp2)).symm
    · exact ha.cs _ _ hq2 (hlt hq2)
    · exact (hne rfl).elim
  · intro a b p q hp hq hne
    rcases at_snoc hp with hp2 | ⟨rfl, rfl⟩ <;> rcases at_snoc hq with hq2 | ⟨rfl, rfl⟩
    · exact h.ns.rc _ _ p q hp2 hq2 hne
    · exact ha.cr _ _ hp2 (hlt hp2)
    · exact ha.rc _ _ hq2 (hlt hq2)
    · exact (hne rfl).elim
  · have hf := h.fr.below hbel
    exact World.ownsRow.kept hf hg (own_apart hf hvX (by decide))
  · intro z hz
    rcases List.mem_append.1 hz with hz | hz
    · exact h.fs z hz
    · rw [List.mem_singleton] at hz
      subst hz
      exact ⟨ha.fr, ha.fc⟩
end Go.Proofs.YtaophiknldkfdaaGreatDoor
/- Contracts of package tree: take. -/
namespace Go.Proofs.YtaophiknldkfdaaGreatDoor
open Go.RowKit

theorem del_keys {α : Type} {K : Ks α} {B : Nat} {W w2 : World} {nb n cap : Nat} {fv u : Value} {P : List (Nv α)} {F : List Int} {i m : Nat} {x : Nv α} (h : OwnT K B W (.slice (some ⟨nb, 0, none⟩) n cap) fv P F) (hn : P.length = n) (hx : P[i]? = some x) (hB : B ≤ W.heap.size) (hm : m < x.n.keys.length)
    (hp : DelPost B 9 W x.kv ((x.n.keys.map K.s).map Value.string) m w2 u) :
    (∃ up uc, u = .slice up (x.n.keys.length - 1) uc) ∧ Step B W (w2.setCell ⟨nb, i * 4, none⟩ u) ∧ OwnT K B (w2.setCell ⟨nb, i * 4, none⟩ u) (.slice (some ⟨nb, 0, none⟩) n cap) fv (P.set i ⟨u, x.rv, x.cv, ⟨x.n.keys.take m ++ x.n.keys.drop (m + 1), x.n.rows, x.n.kids, x.n.leaf⟩⟩) F ∧
      w2.cell? ⟨nb, i * 4, none⟩ = some x.kv ∧ w2.frozen? ⟨nb, i * 4, none⟩ = false ∧ w2.cell? ⟨nb, i * 4 + 1, none⟩ = some x.rv ∧ w2.frozen? ⟨nb, i * 4 + 1, none⟩ = false ∧ Lt nb w2.heap.size := by
  subst hn
  obtain ⟨h1, hgr, h3, up, uc, hu⟩ := hp
  have hxo := h.ns.each x (List.mem_of_getElem? hx)
  have hnode := World.ownsRow.kept h.ns.row hgr (own_apart h.ns.row hxo.1 (by decide))
  have hcl := World.ownsRow.cells hnode (g := nb) rfl
  obtain ⟨a0, a1, -, -⟩ := nodeCells_at P i x hx
  have b0 := hcl _ _ a0
  have b1 := hcl _ _ a1
  rw [cell_add, Nat.zero_add] at b0 b1
  have hblk : ∀ g, x.kv.ownBlock = some g → B ≤ g := fun g hg => (World.ownsRow.lt hxo.1 g hg).1
  have hnb : B ≤ nb := (World.ownsRow.lt h.ns.row nb rfl).1
  refine ⟨⟨up, uc, by rw [hu]; simp⟩, ⟨(Below.grown (Below.refl B W) hgr hB hblk).setCell hnb _, ?_, (oth_grown hxo.1 hgr).trans (KeepsOthers.setCell _ _ _)⟩, ?_, b0, World.ownsRow.frozenAt hnode _, b1, World.ownsRow.frozenAt hnode _, (World.ownsRow.lt hnode nb rfl).2⟩
  · intro g T cs hb hT1 hT2 hT3
    exact (Blc.grown hb hgr (not_own hxo.1 hb hT2)).far (a := ⟨nb, i * 4, none⟩) (fun e => not_own h.ns.row hb hT1 (by rw [e]; rfl)) _
  · refine OwnT.keys h hx hgr ?_ (.inl h3) (by have := hxo.2.2.2.2.1; simp; omega)
    have h4 := h1
    rw [← List.map_take, ← List.map_take, ← List.map_drop, ← List.map_drop] at h4
    unfold OwnS
    have e1 : ((x.n.keys.take m ++ x.n.keys.drop (m + 1)).map K.s).length = ((x.n.keys.map K.s).map Value.string).length - 1 := by simp; omega
    rw [e1]
    simpa using h4
theorem del_rows {α : Type} {K : Ks α} {B : Nat} {W w2 : World} {nb n cap : Nat} {fv u : Value} {P : List (Nv α)} {F : List Int} {i m : Nat} {x : Nv α} (h : OwnT K B W (.slice (some ⟨nb, 0, none⟩) n cap) fv P F) (hn : P.length = n) (hx : P[i]? = some x) (hB : B ≤ W.heap.size) (hm : m < x.n.rows.length)
    (hp : DelPost B 3 W x.rv (x.n.rows.map (Value.int .i64)) m w2 u) :
    (∃ up uc, u = .slice up (x.n.rows.length - 1) uc) ∧ Step B W (w2.setCell ⟨nb, i * 4 + 1, none⟩ u) ∧ OwnT K B (w2.setCell ⟨nb, i * 4 + 1, none⟩ u) (.slice (some ⟨nb, 0, none⟩) n cap) fv (P.set i ⟨x.kv, u, x.cv, ⟨x.n.keys, x.n.rows.take m ++ x.n.rows.drop (m + 1), x.n.kids, x.n.leaf⟩⟩) F ∧
      w2.cell? ⟨nb, i * 4 + 1, none⟩ = some x.rv ∧ w2.frozen? ⟨nb, i * 4 + 1, none⟩ = false ∧ Lt nb w2.heap.size := by
  subst hn
  obtain ⟨h1, hgr, h3, up, uc, hu⟩ := hp
  have hxo := h.ns.each x (List.mem_of_getElem? hx)
  have hnode := World.ownsRow.kept h.ns.row hgr (own_apart h.ns.row hxo.2.1 (by decide))
  have hcl := World.ownsRow.cells hnode (g := nb) rfl
  obtain ⟨-, a1, -, -⟩ := nodeCells_at P i x hx
  have b1 := hcl _ _ a1
  rw [cell_add, Nat.zero_add] at b1
  have hblk : ∀ g, x.rv.ownBlock = some g → B ≤ g := fun g hg => (World.ownsRow.lt hxo.2.1 g hg).1
  have hnb : B ≤ nb := (World.ownsRow.lt h.ns.row nb rfl).1
  refine ⟨⟨up, uc, by rw [hu]; simp⟩, ⟨(Below.grown (Below.refl B W) hgr hB hblk).setCell hnb _, ?_, (oth_grown hxo.2.1 hgr).trans (KeepsOthers.setCell _ _ _)⟩, ?_, b1, World.ownsRow.frozenAt hnode _, (World.ownsRow.lt hnode nb rfl).2⟩
  · intro g T cs hb hT1 hT2 hT3
    exact (Blc.grown hb hgr (not_own hxo.2.1 hb hT3)).far (a := ⟨nb, i * 4 + 1, none⟩) (fun e => not_own h.ns.row hb hT1 (by rw [e]; rfl)) _
  · refine OwnT.rows h hx hgr ?_ (.inl h3) (by have := hxo.2.2.2.2.2.1; simp; omega)
    have h4 := h1
    rw [← List.map_take, ← List.map_drop] at h4
    unfold OwnI
    have e1 : (x.n.rows.take m ++ x.n.rows.drop (m + 1)).length = (x.n.rows.map (Value.int .i64)).length - 1 := by simp; omega
    rw [e1]
    simpa using h4

set_option maxHeartbeats 400000 in
theorem take_any {α : Type} (K : Ks α) (B : Nat) (w : World) (nb cap : Nat) (fv : Value) (P : List (Nv α)) (F : List Int) (i m : Nat) (x : Nv α) (h : OwnT K B w (.slice (some ⟨nb, 0, none⟩) P.length cap) fv P F) (hB : B ≤ w.heap.size) (hx : P[i]? = some x) (hm : m < x.n.keys.length) (hm2 : m < x.n.rows.length) :
    Calls Tryz.prog 30 #[.pointer (some ⟨nb, i * 4, none⟩), .int .i64 m] w fun e w' => ∃ Q, e = .returned (.tuple #[]) ∧ OwnT K B w' (.slice (some ⟨nb, 0, none⟩) P.length cap) fv Q F ∧ ndsOf Q = (ndsOf P).set i ⟨x.n.keys.take m ++ x.n.keys.drop (m + 1), x.n.rows.take m ++ x.n.rows.drop (m + 1), x.n.kids, x.n.leaf⟩ ∧ Step B w w' := by
  have HT := Lib.hid h
  have HX := Lib.hid hx
  have hxn := h.ns.each x (List.mem_of_getElem? hx)
  have HXN := Lib.hid hxn
  have hcl := World.ownsRow.cells h.ns.row (g := nb) rfl
  obtain ⟨a0, a1, -, -⟩ := nodeCells_at P i x hx
  have b0 := hcl _ _ a0
  have b1 := hcl _ _ a1
  rw [cell_add, Nat.zero_add] at b0 b1
  have hlt : Lt nb w.heap.size := (World.ownsRow.lt h.ns.row nb rfl).2
  have hkl : x.n.keys.length ≤ 1000 := hxn.2.2.2.2.1
  have hrl : x.n.rows.length ≤ 1000 := hxn.2.2.2.2.2.1
  have hml : m < (x.n.keys.map K.s).length := by rw [List.length_map]; exact hm
  obtain ⟨kp, kc, hkv⟩ := hxn.1.form
  obtain ⟨rp, rc, hrv⟩ := hxn.2.1.slice
  rw [List.length_map] at hkv
  have HK := Lib.hid hxn.1
  have HKV := Lib.hid hkv
  have HRV := Lib.hid hrv
  have HD := Lib.hid (fun (w2 : World) (u : Value) (hp : DelPost B 9 w x.kv ((x.n.keys.map K.s).map Value.string) m w2 u) => del_keys h rfl hx hB hm hp)
  rw [hkv] at b0 HK HD
  rw [hrv] at b1 HD
  clear h hx hxn hcl a0 a1 hkv hrv
  go_enter Tryz.func30, Tryz.ntmps30
  go_wp2_with (first | (go_at_call 52; refine (delS_own B _ _ (x.n.keys.map K.s) m HK.out hml).mono ?_; rintro e w1 ⟨u, rfl, hp⟩; obtain ⟨⟨up, uc, rfl⟩, hst, hot, hc0, hf0, hc1, hf1, hlt1⟩ := HD.out w1 u hp; clear hp))
  generalize HY : (⟨.slice up (x.n.keys.length - 1) uc, .slice rp x.n.rows.length rc, x.cv, ⟨x.n.keys.take m ++ x.n.keys.drop (m + 1), x.n.rows, x.n.kids, x.n.leaf⟩⟩ : Nv α) = y at hot
  have hyr : y.n.rows = x.n.rows ∧ y.rv = .slice rp x.n.rows.length rc := by rw [← HY]; exact ⟨rfl, rfl⟩
  have hxi : i < P.length := (List.getElem?_eq_some_iff.1 HX.out).1
  have hyP : (P.set i y)[i]? = some y := by rw [List.getElem?_set_self hxi]
  have hyo := hot.ns.each y (List.mem_of_getElem? hyP)
  have HR1 : Hid (OwnI B (w1.setCell ⟨nb, i * 4, none⟩ (.slice up (x.n.keys.length - 1) uc)) (.slice rp x.n.rows.length rc) x.n.rows) := Lib.hid (by
    have h1 := hyo.2.1
    rw [hyr.1, hyr.2] at h1
    exact h1)
  have HST := Lib.hid hst
  have HPS : Hid (∀ (w2 : World) (u : Value), DelPost B 3 (w1.setCell ⟨nb, i * 4, none⟩ (.slice up (x.n.keys.length - 1) uc)) (.slice rp x.n.rows.length rc) (x.n.rows.map (Value.int .i64)) m w2 u → (∃ up uc, u = .slice up (x.n.rows.length - 1) uc) ∧ Step B (w1.setCell ⟨nb, i * 4, none⟩ (.slice up (x.n.keys.length - 1) uc)) (w2.setCell ⟨nb, i * 4 + 1, none⟩ u) ∧ OwnT K B (w2.setCell ⟨nb, i * 4 + 1, none⟩ u) (.slice (some ⟨nb, 0, none⟩) P.length cap) fv ((P.set i y).set i ⟨y.kv, u, y.cv, ⟨y.n.keys, x.n.rows.take m ++ x.n.rows.drop (m + 1), y.n.kids, y.n.leaf⟩⟩) F ∧
      w2.cell? ⟨nb, i * 4 + 1, none⟩ = some (.slice rp x.n.rows.length rc) ∧ w2.frozen? ⟨nb, i * 4 + 1, none⟩ = false ∧ Lt nb w2.heap.size) := Lib.hid (fun w2 u hp => by
    have := del_rows (m := m) (u := u) (w2 := w2) hot (by simp) hyP (Nat.le_trans hB hst.1.size) (by rw [hyr.1]; exact hm2) (by rw [hyr.1, hyr.2]; exact hp)
    rw [hyr.1, hyr.2] at this
    exact this)
  have HYY := Lib.hid HY
  clear hot hst hyo hyr hyP HY
  go_wp2_with (first | (go_at_call 53; refine (delI_own B _ _ x.n.rows m HR1.out hm2).mono ?_; rintro e w2 ⟨u, rfl, hp⟩; obtain ⟨⟨vp, vc, rfl⟩, hst2, hot2, hd1, hg1, hlt2⟩ := HPS.out w2 u hp; clear hp))
  go_end0
  refine ⟨_, rfl, hot2, ?_, HST.out.trans hst2⟩
  rw [List.set_set, ndsOf, List.map_set]
  rw [← HYY.out]
  rfl
end Go.Proofs.YtaophiknldkfdaaGreatDoor
