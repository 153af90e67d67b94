/- Package chain, as plain functions on lists of versions. No condition. -/
import Derived.Test.YtkjejmikcgjnaaaCMem
namespace Go.Proofs.Ytkjejmikcgjnaaa
open Go.RowKit

/-- What Key, Value, and all that tell nothing but an error tell. -/
def errE (b : Bool) : Int := if b then 0 else 1
def kB (s : ByteArray) : Bool := decide (1 ≤ s.size) && decide (s.size ≤ 12)
def valB (s : ByteArray) : Bool := decide (s.size ≤ 20)
def vOk (v : Vr) : Bool := decide (1 ≤ v.c) && (valB v.s && !(v.g && !(decide (v.s.size = 0))))
/-- Falling commits, below a. -/
def lOk : Int → List Vr → Bool
  | _, [] => true
  | a, v :: r => decide (v.c < a) && (vOk v && lOk v.c r)
def chOk (k : ByteArray) (l : List Vr) : Bool := kB k && (decide (0 < l.length) && lOk 1073741825 l)
/-- Where the newest version of commit at most n stands. -/
def seenI (n : Int) : List Vr → Nat
  | [] => 0
  | v :: r => if v.c ≤ n then 0 else seenI n r + 1
def atV (n : Int) : List Vr → Option Vr
  | [] => none
  | v :: r => if v.c ≤ n then (if v.g then none else some v) else atV n r
def leftV (n : Int) : List Vr → List Vr
  | [] => []
  | v :: r => if v.c ≤ n then (if v.g then [] else [v]) else v :: leftV n r

theorem seen_le (n : Int) (l : List Vr) : seenI n l ≤ l.length := by
  induction l with
  | nil => exact Nat.le_refl _
  | cons v r ih => unfold seenI; split <;> simp; exact ih
/-- What stands there. -/
theorem at_seen (n : Int) (l : List Vr) : (seenI n l = l.length ∧ atV n l = none ∧ leftV n l = l) ∨ ∃ x, l[seenI n l]? = some x ∧ (x.g = true → atV n l = none ∧ leftV n l = l.take (seenI n l)) ∧ (x.g = false → atV n l = some x ∧ leftV n l = l.take (seenI n l + 1)) := by
  induction l with
  | nil => exact .inl ⟨rfl, rfl, rfl⟩
  | cons v r ih =>
    unfold seenI atV leftV
    by_cases h : v.c ≤ n
    · rw [if_pos h, if_pos h, if_pos h]
      refine .inr ⟨v, rfl, fun hg => ?_, fun hg => ?_⟩
      · rw [if_pos hg, if_pos hg]; exact ⟨rfl, rfl⟩
      · rw [hg]; exact ⟨rfl, rfl⟩
    · rw [if_neg h, if_neg h, if_neg h]
      rcases ih with ⟨h1, h2, h3⟩ | ⟨x, h1, h2, h3⟩
      · exact .inl ⟨by simp [h1], h2, by rw [h3]⟩
      · refine .inr ⟨x, by simpa using h1, fun hg => ?_, fun hg => ?_⟩
        · obtain ⟨e1, e2⟩ := h2 hg; exact ⟨e1, by rw [e2]; rfl⟩
        · obtain ⟨e1, e2⟩ := h3 hg; exact ⟨e1, by rw [e2]; rfl⟩
theorem lOk_all {a : Int} {l : List Vr} (h : lOk a l = true) : ∀ v ∈ l, v.c < a ∧ vOk v = true := by
  induction l generalizing a with
  | nil => intro v hv; cases hv
  | cons x r ih =>
    simp only [lOk, Bool.and_eq_true, decide_eq_true_eq] at h
    obtain ⟨h1, h2, h3⟩ := h
    intro v hv
    rcases List.mem_cons.1 hv with rfl | hv
    · exact ⟨h1, h2⟩
    · obtain ⟨g1, g2⟩ := ih h3 v hv
      exact ⟨by omega, g2⟩
/-- Of falling commits: those that are greater than n stand ahead. -/
theorem seen_count {a : Int} (n : Int) {l : List Vr} (h : lOk a l = true) : l.countP (fun v => !decide (v.c ≤ n)) = seenI n l := by
  induction l generalizing a with
  | nil => rfl
  | cons v r ih =>
    simp only [lOk, Bool.and_eq_true, decide_eq_true_eq] at h
    obtain ⟨h1, h2, h3⟩ := h
    unfold seenI
    by_cases hv : v.c ≤ n
    · rw [if_pos hv, List.countP_eq_zero.2]
      intro x hx
      rcases List.mem_cons.1 hx with rfl | hx
      · simp [hv]
      · have := (lOk_all h3 x hx).1
        simp; omega
    · rw [if_neg hv, List.countP_cons, ih h3]
      simp [hv]
theorem seen_mono {a : Int} (n : Int) {l : List Vr} (h : lOk a l = true) (i j : Nat) (hij : i ≤ j) (hj : j < l.length) (hi : (l.getD i default).c ≤ n) : (l.getD j default).c ≤ n := by
  induction l generalizing a i j with
  | nil => simp at hj
  | cons v r ih =>
    simp only [lOk, Bool.and_eq_true, decide_eq_true_eq] at h
    obtain ⟨h1, h2, h3⟩ := h
    cases j with
    | zero => obtain rfl : i = 0 := by omega
              exact hi
    | succ j =>
      cases i with
      | zero =>
        have hx : r.getD j default ∈ r := by
          have hjr : j < r.length := by simpa using hj
          rw [List.getD, List.getElem?_eq_getElem hjr]; exact List.getElem_mem hjr
        have := (lOk_all h3 _ hx).1
        have h0 : v.c ≤ n := hi
        show (r.getD j default).c ≤ n
        omega
      | succ i => exact ih h3 i j (by omega) (by simpa using hj) hi
theorem left_ok {a : Int} (n : Int) {l : List Vr} (h : lOk a l = true) : lOk a (leftV n l) = true := by
  induction l generalizing a with
  | nil => rfl
  | cons v r ih =>
    have h' := h
    simp only [lOk, Bool.and_eq_true, decide_eq_true_eq] at h
    obtain ⟨h1, h2, h3⟩ := h
    unfold leftV
    split
    · split
      · rfl
      · simp [lOk, h1, h2]
    · simp [lOk, h1, h2, ih h3]
theorem left_at (n m : Int) (hm : n ≤ m) (l : List Vr) : atV m (leftV n l) = atV m l := by
  induction l with
  | nil => rfl
  | cons v r ih =>
    unfold leftV
    by_cases h : v.c ≤ n
    · have hm2 : v.c ≤ m := by omega
      rw [if_pos h]
      cases hg : v.g
      · rw [if_neg (by simp), show atV m (v :: r) = some v by simp [atV, hm2, hg], show atV m [v] = some v by simp [atV, hm2, hg]]
      · rw [if_pos rfl, show atV m (v :: r) = none by simp [atV, hm2, hg]]; rfl
    · rw [if_neg h]
      unfold atV
      rw [ih]
theorem left_left (n : Int) (l : List Vr) : leftV n (leftV n l) = leftV n l := by
  induction l with
  | nil => rfl
  | cons v r ih =>
    by_cases h : v.c ≤ n
    · cases hg : v.g
      · have e : leftV n (v :: r) = [v] := by simp [leftV, h, hg]
        rw [e]; simp [leftV, h, hg]
      · have e : leftV n (v :: r) = [] := by simp [leftV, h, hg]
        rw [e]; rfl
    · have e : leftV n (v :: r) = v :: leftV n r := by simp [leftV, h]
      rw [e]; simp [leftV, h, ih]
theorem seen_is (n : Int) (l : List Vr) (k : Nat) (hk : k ≤ l.length) (h1 : ∀ t, t < k → n < (l.getD t default).c) (h2 : k < l.length → (l.getD k default).c ≤ n) : seenI n l = k := by
  induction l generalizing k with
  | nil => simp at hk; subst hk; rfl
  | cons v r ih =>
    unfold seenI
    cases k with
    | zero =>
      have h0 : v.c ≤ n := h2 (by simp)
      rw [if_pos h0]
    | succ k =>
      have h0 : ¬ v.c ≤ n := by have : n < v.c := h1 0 (by omega); omega
      rw [if_neg h0, ih k (by simpa using hk) (fun t ht => h1 (t + 1) (by omega)) (fun h => h2 (by simpa using h))]
theorem left_take (n : Int) (l : List Vr) : leftV n l = l.take (leftV n l).length := by
  induction l with
  | nil => rfl
  | cons v r ih =>
    unfold leftV
    split
    · split <;> simp
    · simp only [List.length_cons, List.take_succ_cons]; rw [← ih]
theorem left_length (n : Int) (l : List Vr) : (leftV n l).length ≤ l.length := by
  induction l with
  | nil => exact Nat.le_refl _
  | cons v r ih =>
    unfold leftV
    split
    · split <;> simp
    · simpa using ih
theorem at_mem {n : Int} {l : List Vr} {x : Vr} (h : atV n l = some x) : x ∈ l := by
  induction l with
  | nil => cases h
  | cons v r ih =>
    unfold atV at h
    split at h
    · split at h
      · cases h
      · cases h; exact List.mem_cons_self
    · exact List.mem_cons_of_mem _ (ih h)
theorem chOk_parts {k : ByteArray} {l : List Vr} (h : chOk k l = true) : kB k = true ∧ 0 < l.length ∧ lOk 1073741825 l = true := by
  unfold chOk at h
  simp only [Bool.and_eq_true, decide_eq_true_eq] at h
  exact ⟨h.1, h.2.1, h.2.2⟩
theorem chOk_of {k : ByteArray} {l : List Vr} (h1 : kB k = true) (h2 : 0 < l.length) (h3 : lOk 1073741825 l = true) : chOk k l = true := by
  unfold chOk; simp [h1, h2, h3]
end Go.Proofs.Ytkjejmikcgjnaaa
