/- Circles of waits: who leads to whom is a path; a circle has two or more. No program, no memory. -/
import Derived.Test.YthkpeddgcglpcaaWPlain
namespace Go.Proofs.Ythkpeddgcglpcaa

/-- One waits for another. -/
def Edge (l : List Wt) (a b : Int) : Prop := ∃ w ∈ l, w.1 = a ∧ b ∈ w.2
inductive Way (l : List Wt) : Int → Int → Prop
  | one {a b : Int} : Edge l a b → Way l a b
  | more {a b c : Int} : Way l a b → Edge l b c → Way l a c
theorem Way.trans {l : List Wt} {a b c : Int} (h : Way l a b) (k : Way l b c) : Way l a c := by
  induction k with
  | one e => exact .more h e
  | more _ e ih => exact .more ih e
theorem Way.first {l : List Wt} {a b : Int} (h : Way l a b) : ∃ c, Edge l a c ∧ (c = b ∨ Way l c b) := by
  induction h with
  | one e => exact ⟨_, e, .inl rfl⟩
  | more _ e ih =>
    obtain ⟨c, h1, h2⟩ := ih
    rcases h2 with rfl | h2
    · exact ⟨_, h1, .inr (.one e)⟩
    · exact ⟨c, h1, .inr (.more h2 e)⟩

theorem has_iff {l : List Int} {x : Int} : has l x = true ↔ x ∈ l := by simp [has]
theorem isOwn_iff {p : List Wt} {o : Int} : isOwn p o = true ↔ ∃ x ∈ p, x.1 = o := by simp [isOwn]

/- What a step adds. -/
theorem scan_keeps (y : Wt) (r p : List Wt) : ∀ x ∈ p, x ∈ scan y r p := by
  induction r generalizing p with
  | nil => intro x hx; exact hx
  | cons z r ih =>
    intro x hx
    rw [scan]
    refine ih _ x ?_
    split
    · exact List.mem_append_left _ hx
    · exact hx
theorem scan_own {y : Wt} {r p : List Wt} : ∀ x ∈ r, has y.2 x.1 = true → isOwn (scan y r p) x.1 = true := by
  induction r generalizing p with
  | nil => intro x hx; cases hx
  | cons z r ih =>
    intro x hx hh
    rw [scan]
    rcases List.mem_cons.1 hx with rfl | hx
    · cases hn : isOwn p x.1
      · rw [hh]
        simp only [Bool.not_false, Bool.and_self, if_true]
        obtain ⟨w, hw, e⟩ := isOwn_iff.1 (isOwn_self p x)
        exact isOwn_iff.2 ⟨w, scan_keeps y r _ w hw, e⟩
      · obtain ⟨w, hw, e⟩ := isOwn_iff.1 hn
        refine isOwn_iff.2 ⟨w, scan_keeps y r _ w ?_, e⟩
        split
        · exact List.mem_append_left _ hw
        · exact hw
    · exact ih x hx hh
theorem scan_from {y : Wt} {r p : List Wt} : ∀ x ∈ scan y r p, x ∈ p ∨ (x ∈ r ∧ x.1 ∈ y.2) := by
  induction r generalizing p with
  | nil => intro x hx; exact .inl hx
  | cons z r ih =>
    intro x hx
    rw [scan] at hx
    rcases ih x hx with h | h
    · split at h
      · rename_i hc
        simp only [Bool.and_eq_true] at hc
        rcases List.mem_append.1 h with h | h
        · exact .inl h
        · simp at h; rw [h]; exact .inr ⟨List.mem_cons_self .., has_iff.1 hc.1⟩
      · exact .inl h
    · exact .inr ⟨List.mem_cons_of_mem _ h.1, h.2⟩
theorem scan_pre (y : Wt) (r p : List Wt) : ∃ q, scan y r p = p ++ q := by
  induction r generalizing p with
  | nil => exact ⟨[], by simp [scan]⟩
  | cons z r ih =>
    rw [scan]
    split
    · obtain ⟨q, e⟩ := ih (p ++ [z]); exact ⟨z :: q, by rw [e]; simp⟩
    · exact ih p

/-- All that the first i of the path wait for are owners on it. -/
def Done (l : List Wt) (i : Nat) (p : List Wt) : Prop := ∀ (j : Nat) (y : Wt), j < i → p[j]? = some y → ∀ x ∈ l, x.1 ∈ y.2 → isOwn p x.1 = true
theorem follow_done_all {l : List Wt} (g i : Nat) (p : List Wt) (hf : Fits l p) (hg : g + i = l.length + 1) (hd : Done l i p) : ∀ y ∈ follow l g i p, ∀ x ∈ l, x.1 ∈ y.2 → isOwn (follow l g i p) x.1 = true := by
  have hstop : ∀ (q : List Wt) (k : Nat), q.length ≤ k → Done l k q → ∀ y ∈ q, ∀ x ∈ l, x.1 ∈ y.2 → isOwn q x.1 = true := by
    intro q k hk hd y hy
    obtain ⟨j, hj, e⟩ := List.getElem_of_mem hy
    exact hd j y (by omega) (by rw [List.getElem?_eq_getElem hj, e])
  induction g generalizing i p with
  | zero =>
    have := hf.le
    exact hstop p i (by omega) hd
  | succ g ih =>
    by_cases hi : i < p.length
    · obtain ⟨y, hy⟩ : ∃ y, p[i]? = some y := ⟨_, List.getElem?_eq_getElem hi⟩
      rw [follow_step hy]
      refine ih (i + 1) _ (scan_fits y l p (fun _ h => h) hf) (by omega) ?_
      obtain ⟨q, hq⟩ := scan_pre y l p
      intro j z hj hz x hx hxz
      rw [hq] at hz
      have hjp : j < p.length := by omega
      rw [List.getElem?_append_left hjp] at hz
      by_cases hji : j = i
      · subst hji
        rw [hy] at hz
        obtain rfl := Option.some.inj hz
        exact scan_own x hx (has_iff.2 hxz)
      · obtain ⟨w, hw, e⟩ := isOwn_iff.1 (hd j z (by omega) hz x hx hxz)
        exact isOwn_iff.2 ⟨w, scan_keeps y l p w hw, e⟩
    · rw [follow_done (by omega)]
      exact hstop p i (by omega) hd
theorem follow_keeps {l : List Wt} (g i : Nat) (p : List Wt) : ∀ x ∈ p, x ∈ follow l g i p := by
  induction g generalizing i p with
  | zero => intro x hx; exact hx
  | succ g ih =>
    intro x hx
    rw [follow]
    split
    · exact hx
    · exact ih _ _ x (scan_keeps _ l p x hx)
theorem first_iff {o : Int} {r p : List Wt} : ∀ x, x ∈ first o r p ↔ x ∈ p ∨ (x ∈ r ∧ x.1 = o) := by
  induction r generalizing p with
  | nil => intro x; simp [first]
  | cons z r ih =>
    intro x
    rw [first, ih]
    split
    · rename_i hz
      simp only [List.mem_append, List.mem_cons, List.not_mem_nil, or_false]
      constructor
      · rintro ((h | h) | h)
        · exact .inl h
        · subst h; exact .inr ⟨.inl rfl, hz⟩
        · exact .inr ⟨.inr h.1, h.2⟩
      · rintro (h | ⟨h | h, e⟩)
        · exact .inl (.inl h)
        · exact .inl (.inr h)
        · exact .inr ⟨h, e⟩
    · rename_i hz
      simp only [List.mem_cons]
      constructor
      · rintro (h | h)
        · exact .inl h
        · exact .inr ⟨.inr h.1, h.2⟩
      · rintro (h | ⟨h | h, e⟩)
        · exact .inl h
        · subst h; exact absurd e hz
        · exact .inr ⟨h, e⟩
/-- Whoever is on the path is the one itself, or led to. -/
def Led (l : List Wt) (o : Int) (p : List Wt) : Prop := ∀ x ∈ p, x.1 = o ∨ Way l o x.1
theorem follow_led {l : List Wt} {o : Int} (g i : Nat) (p : List Wt) (hl : ∀ x ∈ p, x ∈ l) (h : Led l o p) : Led l o (follow l g i p) := by
  induction g generalizing i p with
  | zero => exact h
  | succ g ih =>
    rw [follow]
    split
    · exact h
    · rename_i y hy
      have hyp := List.mem_of_getElem? hy
      refine ih _ _ ?_ ?_
      · intro x hx
        rcases scan_from x hx with h1 | h1
        · exact hl x h1
        · exact h1.1
      · intro x hx
        rcases scan_from x hx with h1 | h1
        · exact h x h1
        · have e : Edge l y.1 x.1 := ⟨y, hl y hyp, rfl, h1.2⟩
          rcases h y hyp with h2 | h2
          · rw [← h2]; exact .inr (.one e)
          · exact .inr (.more h2 e)
theorem owners_one {a : Int} {l : List Wt} (h : mayFrom a l = true) : ∀ x ∈ l, ∀ y ∈ l, x.1 = y.1 → x = y := by
  induction l generalizing a with
  | nil => intro x hx; cases hx
  | cons z r ih =>
    simp only [mayFrom, Bool.and_eq_true, decide_eq_true_eq] at h
    intro x hx y hy e
    have hlt := mayFrom_lt h.2.2.2
    rcases List.mem_cons.1 hx with rfl | hx
    · rcases List.mem_cons.1 hy with rfl | hy
      · rfl
      · have := hlt y hy; omega
    · rcases List.mem_cons.1 hy with e2 | hy
      · have := hlt x hx; rw [e2] at e; omega
      · exact ih h.2.2.2 x hx y hy e
theorem leads_way {l : List Wt} (hm : mayB l = true) (a b : Int) : leadsB l a b = true ↔ Way l a b := by
  have hm2 := hm
  simp only [mayB, Bool.and_eq_true] at hm2
  have hfit := first_fits (o := a) hm2.2 (fun _ h => h)
  constructor
  · intro h
    obtain ⟨y, hy, hb⟩ := List.any_eq_true.1 h
    have hyl := (followed_fits hm a).2 y hy
    have e : Edge l y.1 b := ⟨y, hyl, rfl, has_iff.1 hb⟩
    have hled : Led l a (followed l a) := follow_led _ _ _ hfit.2 (fun x hx => by
      rcases (first_iff x).1 hx with h1 | h1
      · cases h1
      · exact .inl h1.2)
    rcases hled y hy with h1 | h1
    · rw [← h1]; exact .one e
    · exact .more h1 e
  · intro h
    have hclosed := follow_done_all (l.length + 1) 0 (first a l []) hfit rfl (fun j y hj => absurd hj (Nat.not_lt_zero _))
    have hown : ∀ (c d : Int), (c = a ∨ isOwn (followed l a) c = true) → Edge l c d → ∃ w ∈ followed l a, w.1 = c ∧ d ∈ w.2 := by
      intro c d hc ⟨w, hw, hwc, hd⟩
      rcases hc with rfl | hc
      · exact ⟨w, follow_keeps _ _ _ w ((first_iff w).2 (.inr ⟨hw, hwc⟩)), hwc, hd⟩
      · obtain ⟨z, hz, hzc⟩ := isOwn_iff.1 hc
        have := owners_one hm2.2 z ((followed_fits hm a).2 z hz) w hw (by rw [hzc, hwc])
        subst this
        exact ⟨z, hz, hzc, hd⟩
    have key : ∀ {c : Int}, Way l a c → ∃ w ∈ followed l a, c ∈ w.2 := by
      intro c hw
      induction hw with
      | one e => obtain ⟨w, h1, -, h2⟩ := hown a _ (.inl rfl) e; exact ⟨w, h1, h2⟩
      | more _ e ih =>
        obtain ⟨w, hw1, hw2⟩ := ih
        obtain ⟨z, hz, hzb, hd⟩ := e
        have hb := hclosed w hw1 z hz (by rw [hzb]; exact hw2)
        obtain ⟨u, h1, -, h2⟩ := hown z.1 _ (.inr hb) ⟨z, hz, rfl, hd⟩
        exact ⟨u, h1, h2⟩
    obtain ⟨w, h1, h2⟩ := key h
    exact List.any_eq_true.2 ⟨w, h1, has_iff.2 h2⟩

theorem circleFrom_iff {l : List Wt} {o : Int} (r : List Wt) (p : List Int) : ∀ x, x ∈ circleFrom l o r p ↔ x ∈ p ∨ ∃ w ∈ r, w.1 = x ∧ leadsB l o w.1 = true ∧ leadsB l w.1 o = true := by
  induction r generalizing p with
  | nil => intro x; simp [circleFrom]
  | cons z r ih =>
    intro x
    rw [circleFrom, ih]
    split
    · rename_i hc
      simp only [Bool.and_eq_true] at hc
      simp only [List.mem_append, List.mem_cons, List.not_mem_nil, or_false]
      constructor
      · rintro ((h | h) | ⟨w, h1, h2⟩)
        · exact .inl h
        · exact .inr ⟨z, .inl rfl, h.symm, hc⟩
        · exact .inr ⟨w, .inr h1, h2⟩
      · rintro (h | ⟨w, rfl | h1, h2⟩)
        · exact .inl (.inl h)
        · exact .inl (.inr h2.1.symm)
        · exact .inr ⟨w, h1, h2⟩
    · rename_i hc
      simp only [Bool.and_eq_true] at hc
      simp only [List.mem_cons]
      constructor
      · rintro (h | ⟨w, h1, h2⟩)
        · exact .inl h
        · exact .inr ⟨w, .inr h1, h2⟩
      · rintro (h | ⟨w, rfl | h1, h2⟩)
        · exact .inl h
        · exact absurd h2.2 hc
        · exact .inr ⟨w, h1, h2⟩
theorem circle_iff {l : List Wt} (hm : mayB l = true) {o x : Int} : x ∈ circleL l o ↔ (∃ w ∈ l, w.1 = x) ∧ Way l o x ∧ Way l x o := by
  unfold circleL
  rw [circleFrom_iff]
  constructor
  · rintro (h | ⟨w, h1, rfl, h2, h3⟩)
    · cases h
    · exact ⟨⟨w, h1, rfl⟩, (leads_way hm _ _).1 h2, (leads_way hm _ _).1 h3⟩
  · rintro ⟨⟨w, h1, rfl⟩, h2, h3⟩
    exact .inr ⟨w, h1, rfl, (leads_way hm _ _).2 h2, (leads_way hm _ _).2 h3⟩
theorem may_notself {a : Int} {l : List Wt} (h : mayFrom a l = true) : ∀ w ∈ l, w.1 ∉ w.2 := by
  induction l generalizing a with
  | nil => intro w hw; cases hw
  | cons z r ih =>
    simp only [mayFrom, Bool.and_eq_true, Bool.not_eq_true'] at h
    intro w hw
    rcases List.mem_cons.1 hw with rfl | hw
    · intro hc; rw [has_iff.2 hc] at h; simp at h
    · exact ih h.2.2.2 w hw
/-- In a circle each has another one. -/
theorem circle_other {l : List Wt} (hm : mayB l = true) {o x : Int} (h : x ∈ circleL l o) : ∃ y ∈ circleL l o, y ≠ x := by
  have hm2 := hm
  simp only [mayB, Bool.and_eq_true] at hm2
  obtain ⟨⟨w, hw, rfl⟩, h1, h2⟩ := (circle_iff hm).1 h
  obtain ⟨c, ⟨z, hz, hzx, hc⟩, hc2⟩ := (h2.trans h1).first
  have hzw := owners_one hm2.2 z hz w hw hzx
  subst hzw
  have hne : c ≠ z.1 := fun e => may_notself hm2.2 z hz (e ▸ hc)
  have hwc : Way l z.1 c := .one ⟨z, hz, rfl, hc⟩
  have hcx : Way l c z.1 := by
    rcases hc2 with e | hc2
    · exact absurd e hne
    · exact hc2
  obtain ⟨d, ⟨u, hu, huc, -⟩, -⟩ := hcx.first
  exact ⟨c, (circle_iff hm).2 ⟨⟨u, hu, huc⟩, h1.trans hwc, hcx.trans h2⟩, hne⟩
end Go.Proofs.Ythkpeddgcglpcaa
