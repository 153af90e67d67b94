/- What package wait computes, as functions of lists: no program, no memory. -/
import Derived.Test.YtcbablighgooeaaWMem
namespace Go.Proofs.Ytcbablighgooeaa

def has (l : List Int) (x : Int) : Bool := l.contains x
def risesFrom : Int → List Int → Bool
  | _, [] => true
  | a, n :: r => decide (a < n) && risesFrom n r
def risesB (l : List Int) : Bool := risesFrom (-1) l
def mayFrom : Int → List Wt → Bool
  | _, [] => true
  | a, x :: r => decide (a < x.1) && (risesB x.2 && (!has x.2 x.1 && mayFrom x.1 r))
def mayB (l : List Wt) : Bool := decide (l.length ≤ 6) && mayFrom (-1) l
def isOwn (l : List Wt) (o : Int) : Bool := l.any fun x => x.1 == o
/-- The waits of o. -/
def first (o : Int) : List Wt → List Wt → List Wt
  | [], p => p
  | x :: r, p => first o r (if x.1 = o then p ++ [x] else p)
/-- One round of a follower: whoever y waits for, each once. -/
def scan (y : Wt) : List Wt → List Wt → List Wt
  | [], p => p
  | x :: r, p => scan y r (if has y.2 x.1 && !isOwn p x.1 then p ++ [x] else p)
def follow (l : List Wt) : Nat → Nat → List Wt → List Wt
  | 0, _, p => p
  | g + 1, i, p => match p[i]? with
    | none => p
    | some y => follow l g (i + 1) (scan y l p)
def followed (l : List Wt) (o : Int) : List Wt := follow l (l.length + 1) 0 (first o l [])
def leadsB (l : List Wt) (a b : Int) : Bool := (followed l a).any fun x => has x.2 b
def circleFrom (l : List Wt) (o : Int) : List Wt → List Int → List Int
  | [], p => p
  | x :: r, p => circleFrom l o r (if leadsB l o x.1 && leadsB l x.1 o then p ++ [x.1] else p)
def circleL (l : List Wt) (o : Int) : List Int := circleFrom l o l []
def gather : List Wt → List Int → List Int
  | [], p => p
  | x :: r, p => gather r (p ++ x.2)
def ageB (ages : List Int) (o : Int) : Bool := decide (0 ≤ o) && (decide (o < ages.length) && !(ages.getD o.toNat 0 == 0))
def agesAll (ages : List Int) (l : List Int) : Bool := l.all (ageB ages)
def allAges (ages : List Int) (l : List Wt) : Bool := l.all fun x => ageB ages x.1 && agesAll ages x.2
def agesFrom : Int → List Int → Bool
  | _, [] => true
  | a, n :: r => (!decide (n < 0) && !(decide (0 < n) && n == a)) && agesFrom n r
def sorted (l : List Int) : List Int := l.mergeSort fun x y => decide (x ≤ y)
def agesB (l : List Int) : Bool := agesFrom 0 (sorted l)

def ageOf (ages : List Int) (o : Int) : Int := ages.getD o.toNat 0
def maxFrom (ages : List Int) : Int → List Int → Int
  | m, [] => m
  | m, x :: r => maxFrom ages (if ageOf ages m < ageOf ages x then x else m) r
def youngL (ages : List Int) : List Int → Int
  | [] => 0
  | x :: r => maxFrom ages x r
def OldIn (ages : List Int) (o : Int) : Prop := 0 ≤ o ∧ o < ages.length
theorem ages_low {a n : Int} (r : List Int) (h : n < 0) : agesFrom a (n :: r) = false := by
  rw [agesFrom, decide_eq_true h]; rfl
theorem ages_same {n : Int} (r : List Int) (h : 0 < n) : agesFrom n (n :: r) = false := by
  rw [agesFrom, decide_eq_true h]; simp
theorem ages_zero {a : Int} (r : List Int) : agesFrom a (0 :: r) = agesFrom 0 r := by
  rw [agesFrom]; simp
theorem ages_go {a n : Int} (r : List Int) (h : 0 < n) (h2 : ¬ n = a) : agesFrom a (n :: r) = agesFrom n r := by
  rw [agesFrom, decide_eq_false (by omega), decide_eq_true h]; simp [h2]
theorem agesFrom_of {a : Int} {l : List Int} (h : ∀ x ∈ l, 0 < x) (hp : l.Pairwise (· < ·)) (ha : ∀ x ∈ l, a < x) : agesFrom a l = true := by
  induction l generalizing a with
  | nil => rfl
  | cons n r ih =>
    rw [ages_go _ (h n (List.mem_cons_self ..)) (by have := ha n (List.mem_cons_self ..); omega)]
    rw [List.pairwise_cons] at hp
    exact ih (fun x hx => h x (List.mem_cons_of_mem _ hx)) hp.2 hp.1
theorem agesB_of {l : List Int} (h : ∀ x ∈ l, 0 < x) (hn : l.Nodup) : agesB l = true := by
  have hp : (sorted l).Perm l := List.mergeSort_perm l _
  have hs : (sorted l).Pairwise fun a b => decide (a ≤ b) = true := List.pairwise_mergeSort (fun a b c h1 h2 => by simp at *; omega) (fun a b => by simp; omega) l
  have hd : (sorted l).Nodup := hp.nodup_iff.2 hn
  have h2 : ∀ x ∈ sorted l, 0 < x := fun x hx => h x (hp.mem_iff.1 hx)
  refine agesFrom_of h2 ?_ h2
  have hd' : (sorted l).Pairwise (· ≠ ·) := hd
  exact (hs.and hd').imp (fun h => by have h1 := h.1; have h3 := h.2; simp at h1 h3; omega)
theorem rises_go {a x : Int} (l : List Int) (h : a < x) : risesFrom a (x :: l) = risesFrom x l := by rw [risesFrom, decide_eq_true h, Bool.true_and]
theorem rises_no {a x : Int} (l : List Int) (h : x ≤ a) : risesFrom a (x :: l) = false := by rw [risesFrom, decide_eq_false (by omega), Bool.false_and]
theorem risesFrom_lt {a : Int} {l : List Int} (h : risesFrom a l = true) : ∀ x ∈ l, a < x := by
  induction l generalizing a with
  | nil => intro x hx; cases hx
  | cons n r ih =>
    simp only [risesFrom, Bool.and_eq_true, decide_eq_true_eq] at h
    intro x hx
    rcases List.mem_cons.1 hx with rfl | hx
    · exact h.1
    · have := ih h.2 x hx; omega
theorem risesFrom_sorted {a : Int} {l : List Int} (h : risesFrom a l = true) : l.Pairwise (· < ·) := by
  induction l generalizing a with
  | nil => exact .nil
  | cons n r ih =>
    simp only [risesFrom, Bool.and_eq_true, decide_eq_true_eq] at h
    exact .cons (risesFrom_lt h.2) (ih h.2)
theorem rises_le {l : List Int} (h : risesB l = true) : l.Pairwise (· ≤ ·) := (risesFrom_sorted h).imp (fun h => by omega)

theorem may_low {a : Int} {x : Wt} (l : List Wt) (h : x.1 ≤ a) : mayFrom a (x :: l) = false := by rw [mayFrom, decide_eq_false (by omega), Bool.false_and]
theorem may_fall {a : Int} {x : Wt} (l : List Wt) (h : risesB x.2 = false) : mayFrom a (x :: l) = false := by rw [mayFrom, h, Bool.false_and, Bool.and_false]
theorem may_self {a : Int} {x : Wt} (l : List Wt) (h : has x.2 x.1 = true) : mayFrom a (x :: l) = false := by rw [mayFrom, h]; simp
theorem may_go {a : Int} {x : Wt} (l : List Wt) (h : a < x.1) (h1 : risesB x.2 = true) (h2 : has x.2 x.1 = false) : mayFrom a (x :: l) = mayFrom x.1 l := by rw [mayFrom, decide_eq_true h, h1, h2]; rfl
theorem mayFrom_lt {a : Int} {l : List Wt} (h : mayFrom a l = true) : ∀ x ∈ l, a < x.1 := by
  induction l generalizing a with
  | nil => intro x hx; cases hx
  | cons n r ih =>
    simp only [mayFrom, Bool.and_eq_true, decide_eq_true_eq] at h
    intro x hx
    rcases List.mem_cons.1 hx with rfl | hx
    · exact h.1
    · have := ih h.2.2.2 x hx; omega
theorem mayFrom_rises {a : Int} {l : List Wt} (h : mayFrom a l = true) : ∀ x ∈ l, risesB x.2 = true := by
  induction l generalizing a with
  | nil => intro x hx; cases hx
  | cons n r ih =>
    simp only [mayFrom, Bool.and_eq_true, decide_eq_true_eq] at h
    intro x hx
    rcases List.mem_cons.1 hx with rfl | hx
    · exact h.2.1
    · exact ih h.2.2.2 x hx
theorem may_rises {l : List Wt} (h : mayB l = true) : ∀ x ∈ l, risesB x.2 = true := by
  simp only [mayB, Bool.and_eq_true] at h; exact mayFrom_rises h.2
theorem may_len {l : List Wt} (h : mayB l = true) : l.length ≤ 6 := by
  simp only [mayB, Bool.and_eq_true, decide_eq_true_eq] at h; exact h.1

/- followed is not longer than the list itself. -/
theorem countP_lt {α : Type} {p q : α → Bool} {l : List α} (h : ∀ x ∈ l, p x = true → q x = true) {y : α} (hy : y ∈ l) (hp : p y = false) (hq : q y = true) : l.countP p + 1 ≤ l.countP q := by
  induction l with
  | nil => cases hy
  | cons x r ih =>
    have hle : r.countP p ≤ r.countP q := List.countP_mono_left (fun z hz => h z (List.mem_cons_of_mem _ hz))
    rcases List.mem_cons.1 hy with rfl | hy
    · rw [List.countP_cons_of_neg (by simp [hp]), List.countP_cons_of_pos hq]; omega
    · have := ih (fun z hz => h z (List.mem_cons_of_mem _ hz)) hy
      have hx := h x (List.mem_cons_self ..)
      cases hpx : p x
      · rw [List.countP_cons_of_neg (by simp [hpx])]
        have : r.countP q ≤ (x :: r).countP q := by rw [List.countP_cons]; omega
        omega
      · rw [List.countP_cons_of_pos hpx, List.countP_cons_of_pos (hx hpx)]; omega
/-- A path that has as many waits of l as it is long. -/
def Fits (l p : List Wt) : Prop := p.length ≤ l.countP (fun x => isOwn p x.1) ∧ ∀ x ∈ p, x ∈ l
theorem Fits.le {l p : List Wt} (h : Fits l p) : p.length ≤ l.length := Nat.le_trans h.1 List.countP_le_length
theorem isOwn_mono {p : List Wt} {x : Wt} {o : Int} (h : isOwn p o = true) : isOwn (p ++ [x]) o = true := by
  unfold isOwn at *
  rw [List.any_append, h]; rfl
theorem isOwn_self (p : List Wt) (x : Wt) : isOwn (p ++ [x]) x.1 = true := by
  simp [isOwn, List.any_append]
theorem Fits.add {l p : List Wt} {x : Wt} (h : Fits l p) (hx : x ∈ l) (hn : isOwn p x.1 = false) : Fits l (p ++ [x]) := by
  refine ⟨?_, ?_⟩
  · have := countP_lt (p := fun z : Wt => isOwn p z.1) (q := fun z : Wt => isOwn (p ++ [x]) z.1) (l := l) (fun z _ hz => isOwn_mono hz) hx hn (isOwn_self p x)
    have h1 := h.1
    simp only [List.length_append, List.length_cons, List.length_nil]
    omega
  · intro z hz
    rcases List.mem_append.1 hz with hz | hz
    · exact h.2 z hz
    · simp at hz; rw [hz]; exact hx

/- The first step: with owners that rise, at most one wait. -/
theorem first_none {a o : Int} {l : List Wt} (h : mayFrom a l = true) (ho : o ≤ a) (p : List Wt) : first o l p = p := by
  induction l generalizing a p with
  | nil => rfl
  | cons x r ih =>
    have hx := mayFrom_lt h x (List.mem_cons_self ..)
    simp only [mayFrom, Bool.and_eq_true, decide_eq_true_eq] at h
    rw [first, if_neg (by omega)]
    exact ih h.2.2.2 (by omega) p
theorem scan_length (y : Wt) (l p : List Wt) : p.length ≤ (scan y l p).length := by
  induction l generalizing p with
  | nil => exact Nat.le_refl _
  | cons x r ih =>
    rw [scan]
    refine Nat.le_trans ?_ (ih _)
    split <;> simp
theorem scan_fits {l : List Wt} (y : Wt) (r p : List Wt) (hr : ∀ x ∈ r, x ∈ l) (h : Fits l p) : Fits l (scan y r p) := by
  induction r generalizing p with
  | nil => exact h
  | cons x r ih =>
    rw [scan]
    refine ih _ (fun z hz => hr z (List.mem_cons_of_mem _ hz)) ?_
    split
    · rename_i hc
      simp only [Bool.and_eq_true, Bool.not_eq_true'] at hc
      exact h.add (hr x (List.mem_cons_self ..)) hc.2
    · exact h
theorem follow_done {l : List Wt} {g i : Nat} {p : List Wt} (h : p.length ≤ i) : follow l g i p = p := by
  cases g with
  | zero => rfl
  | succ g => rw [follow, List.getElem?_eq_none h]
theorem follow_step {l : List Wt} {g i : Nat} {p : List Wt} {y : Wt} (h : p[i]? = some y) : follow l (g + 1) i p = follow l g (i + 1) (scan y l p) := by
  rw [follow, h]
theorem scan_yes {y x : Wt} (r p : List Wt) (h : has y.2 x.1 = true) (h2 : isOwn p x.1 = false) : scan y (x :: r) p = scan y r (p ++ [x]) := by
  rw [scan, h, h2]; rfl
theorem scan_no {y x : Wt} (r p : List Wt) (h : has y.2 x.1 = false) : scan y (x :: r) p = scan y r p := by
  rw [scan, h]; rfl
theorem scan_old {y x : Wt} (r p : List Wt) (h2 : isOwn p x.1 = true) : scan y (x :: r) p = scan y r p := by
  rw [scan, h2]; simp
theorem first_yes {o : Int} {x : Wt} (r p : List Wt) (h : x.1 = o) : first o (x :: r) p = first o r (p ++ [x]) := by rw [first, if_pos h]
theorem first_no {o : Int} {x : Wt} (r p : List Wt) (h : ¬ x.1 = o) : first o (x :: r) p = first o r p := by rw [first, if_neg h]
theorem first_fits {a o : Int} {l r : List Wt} (h : mayFrom a r = true) (hr : ∀ x ∈ r, x ∈ l) : Fits l (first o r []) := by
  induction r generalizing a with
  | nil => exact ⟨Nat.zero_le _, fun x hx => by cases hx⟩
  | cons x r ih =>
    simp only [mayFrom, Bool.and_eq_true, decide_eq_true_eq] at h
    rw [first]
    by_cases hx : x.1 = o
    · rw [if_pos hx, first_none h.2.2.2 (by omega)]
      have h0 : Fits l [] := ⟨Nat.zero_le _, fun x hx => by cases hx⟩
      exact h0.add (hr x (List.mem_cons_self ..)) rfl
    · rw [if_neg hx]
      exact ih h.2.2.2 (fun z hz => hr z (List.mem_cons_of_mem _ hz))
theorem follow_fits {l : List Wt} (g i : Nat) (p : List Wt) (h : Fits l p) : Fits l (follow l g i p) := by
  induction g generalizing i p with
  | zero => exact h
  | succ g ih =>
    rw [follow]
    split
    · exact h
    · exact ih _ _ (scan_fits _ l p (fun _ h => h) h)
theorem followed_fits {l : List Wt} (h : mayB l = true) (o : Int) : Fits l (followed l o) := by
  simp only [mayB, Bool.and_eq_true] at h
  exact follow_fits _ _ _ (first_fits h.2 (fun _ h => h))
end Go.Proofs.Ytcbablighgooeaa
