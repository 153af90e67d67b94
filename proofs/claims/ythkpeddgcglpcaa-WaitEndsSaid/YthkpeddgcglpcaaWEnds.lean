/- What WaitEnds leans on: without its victim a list of waits may still be, and is shorter; the victim has an older one beside it. No program. -/
import Derived.Test.YthkpeddgcglpcaaWGraph
namespace Go.Proofs.Ythkpeddgcglpcaa

def restF (v : Int) (f : List Int) : List Int := f.filter fun y => !(y == v)
def restL (v : Int) : List Wt → List Wt
  | [] => []
  | x :: r => if x.1 = v then restL v r else (x.1, restF v x.2) :: restL v r
theorem restF_keep {v y : Int} {r : List Int} (h : ¬ y = v) : restF v (y :: r) = y :: restF v r := by
  simp [restF, h]
theorem restF_drop {v y : Int} {r : List Int} (h : y = v) : restF v (y :: r) = restF v r := by
  simp [restF, h]
theorem restF_len (v : Int) (f : List Int) : (restF v f).length ≤ f.length := List.length_filter_le _ _
theorem restL_len (v : Int) (l : List Wt) : (restL v l).length ≤ l.length := by
  induction l with
  | nil => exact Nat.le_refl _
  | cons x r ih => rw [restL]; split <;> simp <;> omega
theorem restL_less {v : Int} {l : List Wt} (h : ∃ x ∈ l, x.1 = v) : (restL v l).length + 1 ≤ l.length := by
  induction l with
  | nil => obtain ⟨x, hx, -⟩ := h; cases hx
  | cons x r ih =>
    rw [restL]
    split
    · have := restL_len v r; simp; omega
    · rename_i hn
      obtain ⟨y, hy, e⟩ := h
      rcases List.mem_cons.1 hy with rfl | hy
      · exact absurd e hn
      · have := ih ⟨y, hy, e⟩; simp; omega
theorem restF_rises {v a : Int} {f : List Int} (h : risesFrom a f = true) : risesFrom a (restF v f) = true := by
  induction f generalizing a with
  | nil => rfl
  | cons n r ih =>
    simp only [risesFrom, Bool.and_eq_true, decide_eq_true_eq] at h
    by_cases hn : n = v
    · rw [restF_drop hn]
      have h2 := ih h.2
      cases hr : restF v r with
      | nil => rfl
      | cons m s =>
        rw [hr] at h2
        simp only [risesFrom, Bool.and_eq_true, decide_eq_true_eq] at h2 ⊢
        exact ⟨by omega, h2.2⟩
    · rw [restF_keep hn]
      simp only [risesFrom, Bool.and_eq_true, decide_eq_true_eq]
      exact ⟨h.1, ih h.2⟩
theorem restF_not {v o : Int} {f : List Int} (h : has f o = false) : has (restF v f) o = false := by
  cases hc : has (restF v f) o
  · rfl
  · have := has_iff.1 hc
    rw [has_iff.2 (List.mem_filter.1 this).1] at h; cases h
theorem restL_may {v a : Int} {l : List Wt} (h : mayFrom a l = true) : mayFrom a (restL v l) = true := by
  induction l generalizing a with
  | nil => rfl
  | cons x r ih =>
    simp only [mayFrom, Bool.and_eq_true, decide_eq_true_eq, Bool.not_eq_true'] at h
    rw [restL]
    split
    · have h2 := ih h.2.2.2
      cases hr : restL v r with
      | nil => rfl
      | cons m s =>
        rw [hr] at h2
        simp only [mayFrom, Bool.and_eq_true, decide_eq_true_eq] at h2 ⊢
        exact ⟨by omega, h2.2⟩
    · simp only [mayFrom, Bool.and_eq_true, decide_eq_true_eq, Bool.not_eq_true']
      exact ⟨h.1, restF_rises h.2.1, restF_not h.2.2.1, ih h.2.2.2⟩
theorem rest_may {v : Int} {l : List Wt} (h : mayB l = true) : mayB (restL v l) = true := by
  simp only [mayB, Bool.and_eq_true, decide_eq_true_eq] at h ⊢
  exact ⟨Nat.le_trans (restL_len v l) h.1, restL_may h.2⟩

/-- All that are spoken of are 0 to 7. -/
def In8 (l : List Wt) : Prop := ∀ x ∈ l, (0 ≤ x.1 ∧ x.1 ≤ 7) ∧ ∀ y ∈ x.2, 0 ≤ y ∧ y ≤ 7
theorem rest_in8 {v : Int} {l : List Wt} (h : In8 l) : In8 (restL v l) := by
  induction l with
  | nil => exact h
  | cons x r ih =>
    have hr := ih (fun y hy => h y (List.mem_cons_of_mem _ hy))
    rw [restL]
    split
    · exact hr
    · intro y hy
      rcases List.mem_cons.1 hy with rfl | hy
      · have hx := h x (List.mem_cons_self ..)
        exact ⟨hx.1, fun z hz => hx.2 z (List.mem_filter.1 hz).1⟩
      · exact hr y hy

def eAge (b i : Nat) : Int := ((1 + (i * 5 + b) % 8 : Nat) : Int)
def eTake (b k : Nat) : List Int := (List.range k).map fun (i : Nat) => eAge b i
def endAges (b : Nat) : List Int := eTake b 8
theorem end_len (b : Nat) : (endAges b).length = 8 := by simp [endAges, eTake]
theorem e_len (b k : Nat) : (eTake b k).length = k := by simp [eTake]
theorem e_snoc (b k : Nat) : eTake b (k + 1) = eTake b k ++ [eAge b k] := by
  unfold eTake; rw [List.range_succ, List.map_append]; rfl
theorem e_get (b k i : Nat) (h : i < k) : (eTake b k)[i]? = some (eAge b i) := by
  simp [eTake, List.getElem?_map, List.getElem?_range h]
theorem e_mod (b i : Nat) : eAge b i = eAge (b % 8) i := by unfold eAge; omega
theorem end_mod (b : Nat) : endAges b = endAges (b % 8) := by
  unfold endAges eTake; congr 1; funext i; exact e_mod b i
theorem end_pos : ∀ b, b < 8 → (∀ x ∈ endAges b, 0 < x) ∧ (endAges b).Nodup := by decide +kernel
theorem end_ages (b : Nat) : agesB (endAges b) = true := by
  rw [end_mod]; have h := end_pos (b % 8) (by omega); exact agesB_of h.1 h.2
theorem eAge_pos (b i : Nat) : 0 < eAge b i := by unfold eAge; omega
theorem eAge_inj {b i j : Nat} (hi : i < 8) (hj : j < 8) (h : eAge b i = eAge b j) : i = j := by unfold eAge at h; omega
theorem ageOf_end {b i : Nat} (h : i < 8) : ageOf (endAges b) i = eAge b i := by
  unfold ageOf endAges; simp [List.getD, e_get b 8 i h]
theorem end_old {b : Nat} {x : Int} (h : 0 ≤ x ∧ x ≤ 7) : ageB (endAges b) x = true := by
  obtain ⟨i, rfl⟩ : ∃ i : Nat, x = i := ⟨x.toNat, by omega⟩
  have hi : i < 8 := by omega
  have h1 := ageOf_end (b := b) hi
  have h2 := eAge_pos b i
  simp only [ageB, Bool.and_eq_true, decide_eq_true_eq, end_len]
  refine ⟨h.1, by omega, ?_⟩
  unfold ageOf at h1
  rw [h1]; simp; omega
theorem end_all {b : Nat} {l : List Wt} (h : In8 l) : allAges (endAges b) l = true := by
  refine List.all_eq_true.2 fun x hx => ?_
  rw [Bool.and_eq_true]
  exact ⟨end_old (h x hx).1, List.all_eq_true.2 fun y hy => end_old ((h x hx).2 y hy)⟩

theorem max_mem (ages : List Int) (m : Int) (r : List Int) : maxFrom ages m r = m ∨ maxFrom ages m r ∈ r := by
  induction r generalizing m with
  | nil => exact .inl rfl
  | cons x r ih =>
    rw [maxFrom]
    rcases ih (if ageOf ages m < ageOf ages x then x else m) with h | h
    · rw [h]
      split
      · exact .inr (List.mem_cons_self ..)
      · exact .inl rfl
    · exact .inr (List.mem_cons_of_mem _ h)
theorem max_ge (ages : List Int) (m : Int) (r : List Int) : ageOf ages m ≤ ageOf ages (maxFrom ages m r) ∧ ∀ x ∈ r, ageOf ages x ≤ ageOf ages (maxFrom ages m r) := by
  induction r generalizing m with
  | nil => exact ⟨Int.le_refl _, fun x hx => by cases hx⟩
  | cons y r ih =>
    rw [maxFrom]
    have h := ih (if ageOf ages m < ageOf ages y then y else m)
    split at h
    · rename_i hlt
      rw [if_pos hlt]
      refine ⟨by omega, fun x hx => ?_⟩
      rcases List.mem_cons.1 hx with rfl | hx
      · exact h.1
      · exact h.2 x hx
    · rename_i hlt
      rw [if_neg hlt]
      refine ⟨h.1, fun x hx => ?_⟩
      rcases List.mem_cons.1 hx with rfl | hx
      · omega
      · exact h.2 x hx
theorem young_mem {ages : List Int} {c : List Int} (h : c ≠ []) : youngL ages c ∈ c := by
  cases c with
  | nil => exact absurd rfl h
  | cons x r =>
    rcases max_mem ages x r with e | e
    · rw [youngL, e]; exact List.mem_cons_self ..
    · exact List.mem_cons_of_mem _ e
theorem young_ge {ages : List Int} {c : List Int} : ∀ x ∈ c, ageOf ages x ≤ ageOf ages (youngL ages c) := by
  cases c with
  | nil => intro x hx; cases hx
  | cons y r =>
    intro x hx
    rcases List.mem_cons.1 hx with rfl | hx
    · exact (max_ge ages x r).1
    · exact (max_ge ages y r).2 x hx
theorem circle_in8 {l : List Wt} (h : In8 l) (o : Int) : ∀ x ∈ circleL l o, 0 ≤ x ∧ x ≤ 7 := by
  intro x hx
  unfold circleL at hx
  rcases (circleFrom_iff l [] x).1 hx with h1 | ⟨w, hw, rfl, -⟩
  · cases h1
  · exact (h w hw).1
def olderB (ages : List Int) (v : Int) (x : Int) : Bool := decide (ageOf ages x < ageOf ages v)
/-- The victim of a circle has an older one beside it. -/
theorem circle_older {l : List Wt} {b : Nat} {o : Int} (hm : mayB l = true) (h8 : In8 l) (hc : circleL l o ≠ []) : (circleL l o).any (olderB (endAges b) (youngL (endAges b) (circleL l o))) = true ∧ 2 ≤ (circleL l o).length ∧ youngL (endAges b) (circleL l o) ∈ circleL l o := by
  have hv := young_mem (ages := endAges b) hc
  obtain ⟨y, hy, hne⟩ := circle_other hm hv
  have hge := young_ge (ages := endAges b) y hy
  have hy8 := circle_in8 h8 o y hy
  have hv8 := circle_in8 h8 o _ hv
  refine ⟨List.any_eq_true.2 ⟨y, hy, ?_⟩, ?_, hv⟩
  · simp only [olderB, decide_eq_true_eq]
    generalize youngL (endAges b) (circleL l o) = v at *
    obtain ⟨i, rfl⟩ : ∃ i : Nat, y = i := ⟨y.toNat, by omega⟩
    obtain ⟨j, rfl⟩ : ∃ j : Nat, v = j := ⟨v.toNat, by omega⟩
    have hi : i < 8 := by omega
    have hj : j < 8 := by omega
    rw [ageOf_end hi, ageOf_end hj] at *
    rcases Int.lt_or_eq_of_le hge with h | h
    · exact h
    · exact absurd (eAge_inj hi hj h) (by intro e; exact hne (by rw [e]))
  · generalize circleL l o = c at *
    match c, hv, hy with
    | [a], hv, hy => simp at hv hy; exact absurd (hy.trans hv.symm) hne
    | a :: b :: r, _, _ => simp
end Go.Proofs.Ythkpeddgcglpcaa
