/- Parts of the contract of the page's walk at a node. -/
import Derived.Test.YtaophiknldkfdaaGreatDoorTreeLf2
namespace Go.Proofs.YtaophiknldkfdaaGreatDoor
open Go.RowKit

theorem fitsW_parts {α : Type} {K : Ks α} {t : Tr α} {s : Wk α} {n : Int} {b : Bd α} {d : Nat} {x : Nd α} (h : fitsW K t s n b d = some x) :
    ∃ k : Nat, n = k ∧ s.seen.getD k true = false ∧ t.free.contains (k : Int) = false ∧ t.nodes[k]? = some x ∧ x.keys.length ≤ 4 ∧ (2 ≤ x.keys.length ∨ d = 1) ∧ riseB K x.keys = true ∧ areInB K b x.keys = true := by
  unfold fitsW at h
  split at h
  · rename_i hg
    split at h
    · cases h
    · rename_i y hy
      split at h
      · rename_i hk
        obtain rfl := Option.some.inj h
        refine ⟨n.toNat, by omega, hg.1, ?_, hy, hk.1, hk.2.1, hk.2.2.1, hk.2.2.2⟩
        rw [Int.toNat_of_nonneg hg.2.1]
        exact hg.2.2
      · cases h
  · cases h
theorem nodeW_parts {α : Type} {K : Ks α} {t : Tr α} {f : Nat} {s s' : Wk α} {n : Int} {b : Bd α} {d : Nat} (h : nodeW K t (f + 1) s n b d = some s') :
    ∃ x, fitsW K t s n b d = some x ∧ ((x.leaf = true ∧ leafW K ⟨s.seen.set n.toNat true, s.deep, s.rows⟩ x d = some s') ∨ (x.leaf = false ∧ x.rows.length = 0 ∧ 0 < x.keys.length ∧ x.kids.length = x.keys.length + 1 ∧ foldW (fun s2 m b2 => nodeW K t f s2 m b2 (d + 1)) ⟨s.seen.set n.toNat true, s.deep, s.rows⟩ (kidsB b.2 b.1 x.kids x.keys) = some s')) := by
  unfold nodeW at h
  split at h
  · cases h
  · rename_i x hx
    refine ⟨x, hx, ?_⟩
    split at h
    · rename_i hl
      exact .inl ⟨hl, h⟩
    · rename_i hl
      split at h
      · rename_i hk
        exact .inr ⟨hl, hk.1, hk.2.1, hk.2.2, h⟩
      · cases h
theorem WkIn.mark {α : Type} {G wb sb N : Nat} {W : World} {v u : Value} {r : Int} {s : Wk α} (h : WkIn G W wb sb N v u r s) (hG : G ≤ sb) (hne : wb ≠ sb) (k : Nat) :
    WkIn G (W.setCell ⟨sb, k, none⟩ (.bool true)) wb sb N v u r ⟨s.seen.set k true, s.deep, s.rows⟩ ∧ WkStep G wb sb W (W.setCell ⟨sb, k, none⟩ (.bool true)) := by
  obtain ⟨rv, ys, h1, h2, h3⟩ := h
  have hb := (Below.refl G W).setCell (p := ⟨sb, k, none⟩) hG (.bool true)
  refine ⟨⟨rv, ys, h1.far (a := ⟨sb, k, none⟩) hne _, ?_, own_set h3 h2 (by decide) k _⟩, ⟨hb.size, hb, fun b T cs hb2 _ e2 _ => hb2.far (a := ⟨sb, k, none⟩) e2 _⟩⟩
  have := h2.set k (.bool true)
  simpa [List.map_set] using this
theorem WkIn.seen {α : Type} {G wb sb N : Nat} {W : World} {v u : Value} {r : Int} {s : Wk α} (h : WkIn G W wb sb N v u r s) {k : Nat} (hk : s.seen.getD k true = false) : W.cell? ⟨sb, k, none⟩ = some (.bool false) ∧ k < s.seen.length := by
  obtain ⟨rv, ys, h1, h2, h3⟩ := h
  have hlt : k < s.seen.length := by
    by_cases hl : k < s.seen.length
    · exact hl
    · rw [List.getD_eq_getElem?_getD, List.getElem?_eq_none (by omega)] at hk; cases hk
  refine ⟨?_, hlt⟩
  rw [h2.cell k]
  rw [List.getD_eq_getElem?_getD, List.getElem?_eq_getElem hlt] at hk
  simp only [Option.getD_some] at hk
  simp [List.getElem?_eq_getElem hlt, hk]
/-- The k-th kid with its bounds. -/
theorem kidsB_at {α : Type} (hi : Option α) : ∀ (lo : Option α) (kids : List Int) (keys : List α) (i : Nat) (m : Int), kids[i]? = some m → i ≤ keys.length → (kidsB hi lo kids keys)[i]? = some (m, (match i with | 0 => lo | j + 1 => keys[j]?), (match keys[i]? with | some k => some k | none => hi))
  | lo, [], keys, i, m, h, _ => by simp at h
  | lo, k :: ks, [], i, m, h, hi2 => by
    obtain rfl : i = 0 := by simpa using hi2
    simp at h; subst h; simp [kidsB]
  | lo, k :: ks, x :: xs, i, m, h, hi2 => by
    cases i with
    | zero => simp at h; subst h; simp [kidsB]
    | succ i =>
      have g := kidsB_at hi (some x) ks xs i m (by simpa using h) (by simpa using hi2)
      simp only [kidsB, List.getElem?_cons_succ]
      rw [g]
      cases i with
      | zero => simp
      | succ i => simp
theorem kidsB_length {α : Type} (hi : Option α) : ∀ (lo : Option α) (kids : List Int) (keys : List α), (kidsB hi lo kids keys).length = kids.length
  | lo, [], keys => by simp [kidsB]
  | lo, k :: ks, [] => by simp [kidsB, kidsB_length hi lo ks []]
  | lo, k :: ks, x :: xs => by simp [kidsB, kidsB_length hi (some x) ks xs]
theorem foldW_take {α : Type} {f : Wk α → Int → Bd α → Option (Wk α)} : ∀ {l : List (Int × Bd α)} {s s' : Wk α} (k : Nat), foldW f s l = some s' → ∃ s2, foldW f s (l.take k) = some s2 ∧ foldW f s2 (l.drop k) = some s'
  | l, s, s', 0, h => ⟨s, by simp [foldW], by simpa using h⟩
  | [], s, s', k + 1, h => ⟨s, by simp [foldW], by simpa using h⟩
  | p :: r, s, s', k + 1, h => by
    unfold foldW at h
    split at h
    · cases h
    · rename_i s2 h2
      obtain ⟨s3, g1, g2⟩ := foldW_take k h
      exact ⟨s3, by simp [foldW, h2, g1], by simpa using g2⟩
theorem foldW_head {α : Type} {f : Wk α → Int → Bd α → Option (Wk α)} {p : Int × Bd α} {l : List (Int × Bd α)} {s s' : Wk α} (h : foldW f s (p :: l) = some s') : ∃ s2, f s p.1 p.2 = some s2 ∧ foldW f s2 l = some s' := by
  unfold foldW at h
  split at h
  · cases h
  · rename_i s2 h2
    exact ⟨s2, h2, h⟩
theorem foldW_snoc {α : Type} {f : Wk α → Int → Bd α → Option (Wk α)} {p : Int × Bd α} : ∀ {l : List (Int × Bd α)} {s s2 s3 : Wk α}, foldW f s l = some s2 → f s2 p.1 p.2 = some s3 → foldW f s (l ++ (some p).toList) = some s3
  | [], s, s2, s3, h, h2 => by
    simp only [foldW, Option.some.injEq] at h
    subst h
    simp [foldW, h2]
  | a :: r, s, s2, s3, h, h2 => by
    obtain ⟨s4, h4, h5⟩ := foldW_head h
    have := foldW_snoc (p := p) h5 h2
    simp only [List.cons_append, foldW, h4]
    exact this
theorem riseFrom_at {α : Type} {K : Ks α} : ∀ {l : List α} {x : α} {j : Nat} {a b : α}, riseFrom K x l = true → (x :: l)[j]? = some a → (x :: l)[j + 1]? = some b → K.lt a b = true
  | [], x, j, a, b, _, _, h2 => by simp at h2
  | y :: r, x, 0, a, b, h, h1, h2 => by
    simp only [riseFrom, Bool.and_eq_true] at h
    simp at h1 h2
    subst h1 h2
    exact h.1
  | y :: r, x, j + 1, a, b, h, h1, h2 => by
    simp only [riseFrom, Bool.and_eq_true] at h
    exact riseFrom_at (l := r) (x := y) (j := j) h.2 (by simpa using h1) (by simpa using h2)
theorem riseB_at {α : Type} {K : Ks α} {l : List α} {j : Nat} {a b : α} (h : riseB K l = true) (h1 : l[j]? = some a) (h2 : l[j + 1]? = some b) : K.lt a b = true := by
  cases l with
  | nil => simp at h1
  | cons x r => exact riseFrom_at h h1 h2
theorem areInB_at {α : Type} {K : Ks α} {b : Bd α} : ∀ {l : List α} {j : Nat} {k : α}, areInB K b l = true → l[j]? = some k → inB K b k = true
  | [], j, k, _, h => by simp at h
  | a :: r, 0, k, h, h1 => by
    simp only [areInB, Bool.and_eq_true] at h
    simp at h1
    subst h1
    exact h.1
  | a :: r, j + 1, k, h, h1 => by
    simp only [areInB, Bool.and_eq_true] at h
    exact areInB_at h.2 (by simpa using h1)
/-- What a walk keeps: its seen's length; its rows only grow. -/
def Grew {α : Type} (s s' : Wk α) : Prop := s'.seen.length = s.seen.length ∧ s.rows.length ≤ s'.rows.length
theorem foldW_grew {α : Type} {f : Wk α → Int → Bd α → Option (Wk α)} (hf : ∀ s n b s', f s n b = some s' → Grew s s') : ∀ {l : List (Int × Bd α)} {s s' : Wk α}, foldW f s l = some s' → Grew s s'
  | [], s, s', h => by
    simp only [foldW, Option.some.injEq] at h
    subst h
    exact ⟨rfl, Nat.le_refl _⟩
  | p :: r, s, s', h => by
    obtain ⟨s2, h1, h2⟩ := foldW_head h
    have g1 := hf _ _ _ _ h1
    have g2 := foldW_grew hf h2
    exact ⟨g2.1.trans g1.1, Nat.le_trans g1.2 g2.2⟩
theorem leafW_grew {α : Type} {K : Ks α} {s s' : Wk α} {x : Nd α} {d : Nat} (h : leafW K s x d = some s') : Grew s s' := by
  obtain ⟨-, -, -, -, -, rfl⟩ := leafW_parts h
  exact ⟨rfl, by simp⟩
theorem nodeW_grew {α : Type} {K : Ks α} {t : Tr α} : ∀ (f : Nat) {s s' : Wk α} {n : Int} {b : Bd α} {d : Nat}, nodeW K t f s n b d = some s' → Grew s s'
  | 0, s, s', n, b, d, h => by simp [nodeW] at h
  | f + 1, s, s', n, b, d, h => by
    obtain ⟨x, -, h2⟩ := nodeW_parts h
    have key : ∀ s1 : Wk α, Grew ⟨s.seen.set n.toNat true, s.deep, s.rows⟩ s1 → Grew s s1 := fun s1 g => ⟨by simpa using g.1, g.2⟩
    rcases h2 with ⟨-, h3⟩ | ⟨-, -, -, -, h3⟩
    · exact key _ (leafW_grew h3)
    · exact key _ (foldW_grew (fun s n b s' h4 => nodeW_grew f h4) h3)
end Go.Proofs.YtaophiknldkfdaaGreatDoor
