/- A round of a law on trees: what its region has done, in any order. -/
import Derived.Test.YtaophiknldkfdaaGreatDoorTreeAd
import Derived.Test.YtaophiknldkfdaaGreatDoorTPar
namespace Go.Proofs.YtaophiknldkfdaaGreatDoor
open Go.RowKit

def T2 {α : Type} (t2 : Tr α) (v' u' : Value) : Value := .tuple #[.agg #[v', .int .i64 t2.root, u'], .int .i64 0]
/-- The tree stays, whatever is done to block g. -/
def Far {α : Type} (K : Ks α) (B : Nat) (w : World) (g : Nat) (v u : Value) (P : List (Nv α)) (F : List Int) : Prop :=
  ∀ w' : World, w.heap.size ≤ w'.heap.size → (∀ k, k ≠ g → k < w.heap.size → w'.heap[k]? = w.heap[k]?) → TreeIn K B w' v u P F
section
variable {α : Type} {K : Ks α}
theorem far_of_lt {B B' : Nat} {w : World} {g : Nat} {v u : Value} {P : List (Nv α)} {F : List Int} (h : TreeIn K B' w v u P F) (hg : g < B') (hB : B ≤ B') : Far K B w g v u P F :=
  fun w' hs hk => (h.stays (w' := w') ⟨hs, fun k hk1 hk2 => hk k (by omega) hk2⟩).mono hB
theorem far_of_ge {B : Nat} {w : World} {g : Nat} {v u : Value} {P : List (Nv α)} {F : List Int} (h : TreeIn K B w v u P F) (hg : w.heap.size ≤ g) : Far K B w g v u P F :=
  fun w' hs hk => h.stays (w' := w') ⟨hs, fun k _ hk2 => hk k (by omega) hk2⟩
theorem Far.step {B : Nat} {w w2 : World} {g : Nat} {v u : Value} {P : List (Nv α)} {F : List Int} (h : Far K B w g v u P F) (hs : w.heap.size ≤ w2.heap.size) (hk : ∀ k, k ≠ g → k < w.heap.size → w2.heap[k]? = w.heap[k]?) : Far K B w2 g v u P F :=
  fun w' hs' hk' => h w' (Nat.le_trans hs hs') (fun k hne hlt => (hk' k hne (Nat.lt_of_lt_of_le hlt hs)).trans (hk k hne hlt))
theorem Far.below {B : Nat} {w w2 : World} {g : Nat} {v u : Value} {P : List (Nv α)} {F : List Int} (h : Far K B w g v u P F) (hb : Below w.heap.size w w2) : Far K B w2 g v u P F := h.step hb.size (fun k _ hk => hb.block k hk)
theorem Far.set {B : Nat} {w : World} {g i : Nat} {v u x : Value} {P : List (Nv α)} {F : List Int} (h : Far K B w g v u P F) : Far K B (w.setCell ⟨g, i, none⟩ x) g v u P F := h.step (by simp) (fun k hne _ => heap_setCell_other w ⟨g, i, none⟩ k x hne)
theorem Far.is {B : Nat} {w : World} {g : Nat} {v u : Value} {P : List (Nv α)} {F : List Int} (h : Far K B w g v u P F) : TreeIn K B w v u P F := h w (Nat.le_refl _) (fun _ _ _ => rfl)

def RgPost (K : Ks α) (wr : World) (t2 : Tr α) (D : ByteArray) (z4 z5 : Value) (m : Nat → Option Value) (w : World) : Prop :=
  Below wr.heap.size wr w ∧ (m 1 ≠ none → m 0 ≠ none) ∧ (m 3 ≠ none → m 1 ≠ none ∧ m 2 ≠ none) ∧
  (∀ x, m 0 = some x → x = .string D) ∧
  (∀ x, m 1 = some x → ∃ v' u' P', x = T2 t2 v' u' ∧ ndsOf P' = t2.nodes ∧ TreeIn K wr.heap.size w v' u' P' t2.free ∧ ∀ g, m 2 = some (.pointer (some ⟨g, 0, none⟩)) → Far K wr.heap.size w g v' u' P' t2.free) ∧
  (∀ y, m 2 = some y → ∃ g, y = .pointer (some ⟨g, 0, none⟩) ∧ wr.heap.size ≤ g ∧ (∃ c0 c1 c2, Blc w g 25 #[c0, c1, c2]) ∧ (m 3 ≠ none → ∀ v' u', m 1 = some (T2 t2 v' u') → Blc w g 25 #[v', .int .i64 t2.root, u'])) ∧
  (∀ z, m 4 = some z → z = z4) ∧ (∀ z, m 5 = some z → z = z5) ∧ (∀ z, m 3 = some z → z = undef)

variable {wr : World} {t2 : Tr α} {D : ByteArray} {z4 z5 : Value} {m : Nat → Option Value} {w : World}
theorem rg_start (w : World) : RgPost K w t2 D z4 z5 (fun _ => none) w.drew :=
  ⟨nw_drew (Below.refl _ _), fun h => absurd rfl h, fun h => absurd rfl h, (fun _ h => (nomatch h)), (fun _ h => (nomatch h)), (fun _ h => (nomatch h)), (fun _ h => (nomatch h)), (fun _ h => (nomatch h)), (fun _ h => (nomatch h))⟩
theorem rg_dig (h : RgPost K wr t2 D z4 z5 m w) (h0 : m 0 = none) {w' : World} (hb : Below w.heap.size w w') : RgPost K wr t2 D z4 z5 (upd m 0 (.string D)) w' := by
  obtain ⟨a1, a2, a3, a4, a5, a6, a7, a8, a9⟩ := h
  have h1 : m 1 = none := Classical.byContradiction fun e => a2 e h0
  have h3 : m 3 = none := Classical.byContradiction fun e => (a3 e).1 h1
  refine ⟨nw_trans a1 hb, fun _ => by rw [upd_self]; simp, fun e => ?_, fun x hx => ?_, fun x hx => ?_, fun y hy => ?_, fun z hz => ?_, fun z hz => ?_, fun z hz => ?_⟩
  · rw [upd_ne m _ (by decide)] at e; exact absurd h3 e
  · rw [upd_self] at hx; exact (Option.some.inj hx).symm
  · rw [upd_ne m _ (by decide), h1] at hx; cases hx
  · rw [upd_ne m _ (by decide)] at hy
    obtain ⟨g, e, hg, ⟨c0, c1, c2, hc⟩, -⟩ := a6 y hy
    exact ⟨g, e, hg, ⟨c0, c1, c2, hc.below hb⟩, fun e3 => by rw [upd_ne m _ (by decide)] at e3; exact absurd h3 e3⟩
  · rw [upd_ne m _ (by decide)] at hz; exact a7 z hz
  · rw [upd_ne m _ (by decide)] at hz; exact a8 z hz
  · rw [upd_ne m _ (by decide), h3] at hz; cases hz
theorem rg_call (h : RgPost K wr t2 D z4 z5 m w) (h1 : m 1 = none) (h0 : m 0 ≠ none) {e : Ending} {w' : World} (ho : TreeOut K w t2 e w') : ∃ x, e = .returned x ∧ RgPost K wr t2 D z4 z5 (upd m 1 x) w' := by
  obtain ⟨a1, a2, a3, a4, a5, a6, a7, a8, a9⟩ := h
  obtain ⟨v', u', P', rfl, hin, hnd, hb⟩ := ho
  have h3 : m 3 = none := Classical.byContradiction fun e => (a3 e).1 h1
  refine ⟨T2 t2 v' u', rfl, nw_trans a1 hb, fun _ => by rw [upd_ne m _ (by decide)]; exact h0, fun e => ?_, fun x hx => ?_, fun x hx => ?_, fun y hy => ?_, fun z hz => ?_, fun z hz => ?_, fun z hz => ?_⟩
  · rw [upd_ne m _ (by decide)] at e; exact absurd h3 e
  · rw [upd_ne m _ (by decide)] at hx; exact a4 x hx
  · rw [upd_self] at hx
    obtain rfl := Option.some.inj hx
    refine ⟨v', u', P', rfl, hnd, hin.mono a1.size, fun g hg => ?_⟩
    rw [upd_ne m _ (by decide)] at hg
    obtain ⟨g', e, -, ⟨c0, c1, c2, hc⟩, -⟩ := a6 _ hg
    simp only [Value.pointer.injEq, Option.some.injEq, Addr.mk.injEq, and_true] at e
    subst e
    exact far_of_lt hin hc.lt a1.size
  · rw [upd_ne m _ (by decide)] at hy
    obtain ⟨g, e, hg, ⟨c0, c1, c2, hc⟩, -⟩ := a6 y hy
    exact ⟨g, e, hg, ⟨c0, c1, c2, hc.below hb⟩, fun e3 => by rw [upd_ne m _ (by decide)] at e3; exact absurd h3 e3⟩
  · rw [upd_ne m _ (by decide)] at hz; exact a7 z hz
  · rw [upd_ne m _ (by decide)] at hz; exact a8 z hz
  · rw [upd_ne m _ (by decide), h3] at hz; cases hz
theorem rg_new (h : RgPost K wr t2 D z4 z5 m w) (h2 : m 2 = none) (c0 c1 c2 : Value) : RgPost K wr t2 D z4 z5 (upd m 2 (.pointer (some ⟨w.heap.size, 0, none⟩))) (w.alloc (.cells #[c0, c1, c2] 25)) := by
  obtain ⟨a1, a2, a3, a4, a5, a6, a7, a8, a9⟩ := h
  have h3 : m 3 = none := Classical.byContradiction fun e => (a3 e).2 h2
  have hb : Below w.heap.size w (w.alloc (.cells #[c0, c1, c2] 25)) := nw_alloc (Below.refl _ _) _
  refine ⟨nw_trans a1 hb, fun e => ?_, fun e => ?_, fun x hx => ?_, fun x hx => ?_, fun y hy => ?_, fun z hz => ?_, fun z hz => ?_, fun z hz => ?_⟩
  · rw [upd_ne m _ (by decide)] at e ⊢; exact a2 e
  · rw [upd_ne m _ (by decide)] at e; exact absurd h3 e
  · rw [upd_ne m _ (by decide)] at hx; exact a4 x hx
  · rw [upd_ne m _ (by decide)] at hx
    obtain ⟨v', u', P', e, hnd, hin, -⟩ := a5 x hx
    refine ⟨v', u', P', e, hnd, hin.below hb, fun g hg => ?_⟩
    rw [upd_self] at hg
    simp only [Option.some.injEq, Value.pointer.injEq, Addr.mk.injEq, and_true] at hg
    subst hg
    exact (far_of_ge hin (Nat.le_refl _)).below hb
  · rw [upd_self] at hy
    obtain rfl := Option.some.inj hy
    exact ⟨w.heap.size, rfl, a1.size, ⟨c0, c1, c2, Blc.new _ _ _⟩, fun e3 => by rw [upd_ne m _ (by decide)] at e3; exact absurd h3 e3⟩
  · rw [upd_ne m _ (by decide)] at hz; exact a7 z hz
  · rw [upd_ne m _ (by decide)] at hz; exact a8 z hz
  · rw [upd_ne m _ (by decide), h3] at hz; cases hz
theorem rg_store (h : RgPost K wr t2 D z4 z5 m w) (_h3 : m 3 = none) {v' u' : Value} {g : Nat} (h1 : m 1 = some (T2 t2 v' u')) (h2 : m 2 = some (.pointer (some ⟨g, 0, none⟩))) : RgPost K wr t2 D z4 z5 (upd m 3 undef) (((w.setCell ⟨g, 0, none⟩ v').setCell ⟨g, 1, none⟩ (.int .i64 t2.root)).setCell ⟨g, 2, none⟩ u') := by
  obtain ⟨a1, a2, a3, a4, a5, a6, a7, a8, a9⟩ := h
  obtain ⟨g', e9, hg, ⟨c0, c1, c2, hc⟩, -⟩ := a6 _ h2
  simp only [Value.pointer.injEq, Option.some.injEq, Addr.mk.injEq, and_true] at e9
  subst e9
  refine ⟨nw_set (nw_set (nw_set a1 hg _) hg _) hg _, fun e => ?_, fun e => ?_, fun x hx => ?_, fun x hx => ?_, fun y hy => ?_, fun z hz => ?_, fun z hz => ?_, fun z hz => ?_⟩
  · rw [upd_ne m _ (by decide)] at e ⊢; exact a2 e
  · rw [upd_ne m _ (by decide), upd_ne m _ (by decide), h1, h2]; simp
  · rw [upd_ne m _ (by decide)] at hx; exact a4 x hx
  · rw [upd_ne m _ (by decide)] at hx
    obtain ⟨v2, u2, P2, e, hnd, -, hf⟩ := a5 x hx
    have hfar := ((((hf g h2).set (i := 0) (x := v')).set (i := 1) (x := .int .i64 t2.root)).set (i := 2) (x := u'))
    refine ⟨v2, u2, P2, e, hnd, hfar.is, fun g2 hg2 => ?_⟩
    rw [upd_ne m _ (by decide), h2] at hg2
    simp only [Option.some.injEq, Value.pointer.injEq, Addr.mk.injEq, and_true] at hg2
    subst hg2
    exact hfar
  · rw [upd_ne m _ (by decide), h2] at hy
    obtain rfl := Option.some.inj hy
    have hb : Blc (((w.setCell ⟨g, 0, none⟩ v').setCell ⟨g, 1, none⟩ (.int .i64 t2.root)).setCell ⟨g, 2, none⟩ u') g 25 #[v', .int .i64 t2.root, u'] := ((hc.set 0 v').set 1 (.int .i64 t2.root)).set 2 u'
    refine ⟨g, rfl, hg, ⟨_, _, _, hb⟩, fun _ v2 u2 e2 => ?_⟩
    rw [upd_ne m _ (by decide), h1] at e2
    unfold T2 at e2
    simp at e2
    obtain ⟨rfl, rfl⟩ := e2
    exact hb
  · rw [upd_ne m _ (by decide)] at hz; exact a7 z hz
  · rw [upd_ne m _ (by decide)] at hz; exact a8 z hz
  · rw [upd_self] at hz; exact (Option.some.inj hz).symm
theorem rg_four (h : RgPost K wr t2 D z4 z5 m w) : RgPost K wr t2 D z4 z5 (upd m 4 z4) w := by
  obtain ⟨a1, a2, a3, a4, a5, a6, a7, a8, a9⟩ := h
  refine ⟨a1, ?_, ?_, ?_, ?_, ?_, fun z hz => ?_, ?_, ?_⟩
  · rw [upd_ne m _ (by decide), upd_ne m _ (by decide)]; exact a2
  · rw [upd_ne m _ (by decide), upd_ne m _ (by decide), upd_ne m _ (by decide)]; exact a3
  · rw [upd_ne m _ (by decide)]; exact a4
  · rw [upd_ne m _ (by decide), upd_ne m _ (by decide)]; exact a5
  · rw [upd_ne m _ (by decide), upd_ne m _ (by decide), upd_ne m _ (by decide)]; exact a6
  · rw [upd_self] at hz; exact (Option.some.inj hz).symm
  · rw [upd_ne m _ (by decide)]; exact a8
  · rw [upd_ne m _ (by decide)]; exact a9
theorem rg_five (h : RgPost K wr t2 D z4 z5 m w) : RgPost K wr t2 D z4 z5 (upd m 5 z5) w := by
  obtain ⟨a1, a2, a3, a4, a5, a6, a7, a8, a9⟩ := h
  refine ⟨a1, ?_, ?_, ?_, ?_, ?_, ?_, fun z hz => ?_, ?_⟩
  · rw [upd_ne m _ (by decide), upd_ne m _ (by decide)]; exact a2
  · rw [upd_ne m _ (by decide), upd_ne m _ (by decide), upd_ne m _ (by decide)]; exact a3
  · rw [upd_ne m _ (by decide)]; exact a4
  · rw [upd_ne m _ (by decide), upd_ne m _ (by decide)]; exact a5
  · rw [upd_ne m _ (by decide), upd_ne m _ (by decide), upd_ne m _ (by decide)]; exact a6
  · rw [upd_ne m _ (by decide)]; exact a7
  · rw [upd_self] at hz; exact (Option.some.inj hz).symm
  · rw [upd_ne m _ (by decide)]; exact a9
theorem ext_upd {t : Nat} {v : Value} (h : m t = none) : ExtM m (upd m t v) := fun j x hj => by
  by_cases e : j = t
  · subst e; rw [h] at hj; cases hj
  · rw [upd_ne m v e]; exact hj
theorem ExtM.trans {m m1 m2 : Nat → Option Value} (h : ExtM m m1) (k : ExtM m1 m2) : ExtM m m2 := fun t v e => k t v (h t v e)
theorem ExtM.ne {m m1 : Nat → Option Value} (h : ExtM m m1) {t : Nat} (hn : m t ≠ none) : m1 t ≠ none := by
  cases e : m t with
  | none => exact absurd e hn
  | some v => rw [h t v e]; simp
theorem rg_full (h : RgPost K wr t2 D z4 z5 m w) (hcall : ∀ w9, Below wr.heap.size wr w9 → ∃ e w', TreeOut K w9 t2 e w') : ∃ m' w', RgPost K wr t2 D z4 z5 m' w' ∧ FullM 6 m' ∧ ExtM m m' := by
  obtain ⟨m0, w0, p0, n0, e0⟩ : ∃ m' w', RgPost K wr t2 D z4 z5 m' w' ∧ m' 0 ≠ none ∧ ExtM m m' := by
    cases hm : m 0 with
    | none => exact ⟨_, w, rg_dig h hm (Below.refl _ _), by rw [upd_self]; simp, ext_upd hm⟩
    | some x => exact ⟨m, w, h, by rw [hm]; simp, fun _ _ e => e⟩
  obtain ⟨m1, w1, p1, n1, e1⟩ : ∃ m' w', RgPost K wr t2 D z4 z5 m' w' ∧ m' 1 ≠ none ∧ ExtM m0 m' := by
    cases hm : m0 1 with
    | none =>
      obtain ⟨e, w', ho⟩ := hcall w0 p0.1
      obtain ⟨x, -, hp⟩ := rg_call p0 hm n0 ho
      exact ⟨_, w', hp, by rw [upd_self]; simp, ext_upd hm⟩
    | some x => exact ⟨m0, w0, p0, by rw [hm]; simp, fun _ _ e => e⟩
  obtain ⟨m2, w2, p2, n2, e2⟩ : ∃ m' w', RgPost K wr t2 D z4 z5 m' w' ∧ m' 2 ≠ none ∧ ExtM m1 m' := by
    cases hm : m1 2 with
    | none => exact ⟨_, _, rg_new p1 hm undef undef undef, by rw [upd_self]; simp, ext_upd hm⟩
    | some x => exact ⟨m1, w1, p1, by rw [hm]; simp, fun _ _ e => e⟩
  obtain ⟨m3, w3, p3, n3, e3⟩ : ∃ m' w', RgPost K wr t2 D z4 z5 m' w' ∧ m' 3 ≠ none ∧ ExtM m2 m' := by
    cases hm : m2 3 with
    | none =>
      obtain ⟨x, hx⟩ := Option.ne_none_iff_exists'.1 (e2.ne n1)
      obtain ⟨y, hy⟩ := Option.ne_none_iff_exists'.1 n2
      obtain ⟨v', u', P', rfl, -⟩ := p2.2.2.2.2.1 x hx
      obtain ⟨g, rfl, -⟩ := p2.2.2.2.2.2.1 y hy
      exact ⟨_, _, rg_store p2 hm hx hy, by rw [upd_self]; simp, ext_upd hm⟩
    | some x => exact ⟨m2, w2, p2, by rw [hm]; simp, fun _ _ e => e⟩
  obtain ⟨m4, p4, n4, e4⟩ : ∃ m', RgPost K wr t2 D z4 z5 m' w3 ∧ m' 4 ≠ none ∧ ExtM m3 m' := by
    cases hm : m3 4 with
    | none => exact ⟨_, rg_four p3, by rw [upd_self]; simp, ext_upd hm⟩
    | some x => exact ⟨m3, p3, by rw [hm]; simp, fun _ _ e => e⟩
  obtain ⟨m5, p5, n5, e5⟩ : ∃ m', RgPost K wr t2 D z4 z5 m' w3 ∧ m' 5 ≠ none ∧ ExtM m4 m' := by
    cases hm : m4 5 with
    | none => exact ⟨_, rg_five p4, by rw [upd_self]; simp, ext_upd hm⟩
    | some x => exact ⟨m4, p4, by rw [hm]; simp, fun _ _ e => e⟩
  refine ⟨m5, w3, p5, fun t ht => ?_, e0.trans (e1.trans (e2.trans (e3.trans (e4.trans e5))))⟩
  match t, ht with
  | 0, _ => exact (e1.trans (e2.trans (e3.trans (e4.trans e5)))).ne n0
  | 1, _ => exact (e2.trans (e3.trans (e4.trans e5))).ne n1
  | 2, _ => exact (e3.trans (e4.trans e5)).ne n2
  | 3, _ => exact (e4.trans e5).ne n3
  | 4, _ => exact e5.ne n4
  | 5, _ => exact n5
end
end Go.Proofs.YtaophiknldkfdaaGreatDoor
