/- Pages as lists: no program, no memory. -/
import Derived.Test.YtcbablighgooeaaPMem
import Derived.Test.YtcbablighgooeaaWPlain
namespace Go.Proofs.Ytcbablighgooeaa

def sumL : List ByteArray → Nat
  | [] => 0
  | s :: r => s.size + sumL r
def sizeP (S : List ByteArray) : Nat := 4 * S.length + sumL S
def fitsB (S : List ByteArray) : Bool := decide (S.length ≤ 16) && decide (sizeP S ≤ 200)
def recB (S : List ByteArray) (F : List Int) (n : Int) : Bool := decide (0 ≤ n) && (decide (n < S.length) && !has F n)
/-- A page that may be. -/
structure PgOk (S : List ByteArray) (F : List Int) : Prop where
  fits : fitsB S = true
  rise : F.Pairwise (· < ·)
  low : ∀ n ∈ F, 0 ≤ n ∧ n + 1 < S.length
  none : ∀ n ∈ F, S.getD n.toNat E0 = E0

theorem has_mem {l : List Int} {x : Int} : has l x = true ↔ x ∈ l := by simp [has]
theorem has_false {l : List Int} {x : Int} : has l x = false ↔ x ∉ l := by rw [← has_mem]; simp
theorem rec_iff {S : List ByteArray} {F : List Int} {n : Int} : recB S F n = true ↔ 0 ≤ n ∧ n < S.length ∧ n ∉ F := by
  simp [recB, has]
theorem PgOk.len {S : List ByteArray} {F : List Int} (h : PgOk S F) : S.length ≤ 16 ∧ sizeP S ≤ 200 := by
  have := h.fits; simpa [fitsB] using this
theorem PgOk.nil : PgOk [] [] := ⟨by decide, .nil, by simp, by simp⟩
theorem rise_len {F : List Int} {b : Int} (h : F.Pairwise (· < ·)) (hb : ∀ n ∈ F, b ≤ n) {m : Int} (hm : ∀ n ∈ F, n < m) (hbm : b ≤ m) : (F.length : Int) ≤ m - b := by
  induction F generalizing b with
  | nil => simp; omega
  | cons x r ih =>
    rw [List.pairwise_cons] at h
    have h1 := hb x (List.mem_cons_self ..)
    have h2 := hm x (List.mem_cons_self ..)
    have := ih (b := x + 1) h.2 (fun n hn => by have := h.1 n hn; omega) (fun n hn => hm n (List.mem_cons_of_mem _ hn)) (by omega)
    simp only [List.length_cons]
    omega
theorem PgOk.free {S : List ByteArray} {F : List Int} (h : PgOk S F) : F.length ≤ 16 := by
  have := rise_len (b := 0) (m := S.length) h.rise (fun n hn => (h.low n hn).1) (fun n hn => by have := (h.low n hn).2; omega) (by omega)
  have := h.len.1
  omega
theorem mem_le {S : List ByteArray} {s : ByteArray} (h : s ∈ S) : s.size ≤ sumL S := by
  induction S with
  | nil => cases h
  | cons x r ih =>
    rw [sumL]
    rcases List.mem_cons.1 h with rfl | h
    · omega
    · have := ih h; omega
theorem PgOk.small {S : List ByteArray} {F : List Int} (h : PgOk S F) : ∀ s ∈ S, s.size ≤ 200 := fun s hs => by
  have h1 := mem_le hs
  have h2 := h.len.2
  unfold sizeP at h2
  omega
theorem getD_set {α : Type} (l : List α) (i j : Nat) (x d : α) (hi : i < l.length) : (l.set i x).getD j d = if i = j then x else l.getD j d := by
  simp only [List.getD, List.getElem?_set]
  split <;> simp_all
theorem sum_set (S : List ByteArray) (i : Nat) : sumL (S.set i E0) ≤ sumL S := by
  induction S generalizing i with
  | nil => simp [sumL]
  | cons x r ih =>
    cases i with
    | zero =>
      show sumL (E0 :: r) ≤ sumL (x :: r)
      rw [sumL, sumL]
      have : E0.size = 0 := rfl
      omega
    | succ i =>
      show sumL (x :: r.set i E0) ≤ sumL (x :: r)
      have := ih i
      rw [sumL, sumL]; omega
theorem sum_take (S : List ByteArray) (s : Nat) : sumL (S.take s) ≤ sumL S := by
  induction S generalizing s with
  | nil => simp [sumL]
  | cons x r ih =>
    cases s with
    | zero => simp [sumL]
    | succ s =>
      show sumL (x :: r.take s) ≤ sumL (x :: r)
      have := ih s
      rw [sumL, sumL]; omega

/-- A record into the least free slot. -/
theorem add_free {S : List ByteArray} {n0 : Int} {F : List Int} {s : ByteArray} (h : PgOk S (n0 :: F)) (hf : fitsB (S.set n0.toNat s) = true) :
    PgOk (S.set n0.toNat s) F ∧ (∀ m, recB (S.set n0.toNat s) F m = (recB S (n0 :: F) m || decide (m = n0))) ∧ recB S (n0 :: F) n0 = false := by
  have hr := h.rise
  rw [List.pairwise_cons] at hr
  have h0 := h.low n0 (List.mem_cons_self ..)
  refine ⟨⟨hf, hr.2, fun n hn => ?_, fun n hn => ?_⟩, fun m => ?_, ?_⟩
  · have := h.low n (List.mem_cons_of_mem _ hn); simpa using this
  · have h1 := hr.1 n hn
    rw [getD_set _ _ _ _ _ (by omega), if_neg (by omega)]
    exact h.none n (List.mem_cons_of_mem _ hn)
  · rw [Bool.eq_iff_iff, Bool.or_eq_true, rec_iff, rec_iff]
    simp only [List.length_set, List.mem_cons, not_or, decide_eq_true_eq]
    constructor
    · rintro ⟨a, b, c⟩
      by_cases e : m = n0
      · exact .inr e
      · exact .inl ⟨a, b, e, c⟩
    · rintro (⟨a, b, -, c⟩ | rfl)
      · exact ⟨a, b, c⟩
      · exact ⟨h0.1, by omega, fun hm => by have := hr.1 m hm; omega⟩
  · rw [← Bool.not_eq_true, rec_iff]
    simp
/-- A record into a new slot. -/
theorem add_new {S : List ByteArray} {s : ByteArray} (h : PgOk S []) (hf : fitsB (S ++ [s]) = true) :
    PgOk (S ++ [s]) [] ∧ (∀ m, recB (S ++ [s]) [] m = (recB S [] m || decide (m = S.length))) ∧ recB S [] S.length = false := by
  refine ⟨⟨hf, .nil, by simp, by simp⟩, fun m => ?_, ?_⟩
  · rw [Bool.eq_iff_iff, Bool.or_eq_true, rec_iff, rec_iff]
    simp only [List.length_append, List.length_cons, List.length_nil, List.not_mem_nil, not_false_eq_true, and_true, decide_eq_true_eq]
    omega
  · rw [← Bool.not_eq_true, rec_iff]
    simp

theorem sorted_perm (l : List Int) : (sorted l).Perm l := List.mergeSort_perm l _
theorem sorted_rise {l : List Int} (hn : l.Nodup) : (sorted l).Pairwise (· < ·) := by
  have hs : (sorted l).Pairwise fun a b => decide (a ≤ b) = true := List.pairwise_mergeSort (fun a b c h1 h2 => by simp at *; omega) (fun a b => by simp; omega) l
  have hd' : (sorted l).Pairwise (· ≠ ·) := (sorted_perm l).nodup_iff.2 hn
  exact (hs.and hd').imp (fun h => by have h1 := h.1; have h3 := h.2; simp at h1 h3; omega)
theorem rise_nodup {l : List Int} (h : l.Pairwise (· < ·)) : l.Nodup := h.imp (fun h => by omega)

/-- What a cut makes of the slots and the free ones, ahead of the trimming. -/
structure CutOk (S : List ByteArray) (F : List Int) : Prop where
  fits : fitsB S = true
  rise : F.Pairwise (· < ·)
  low : ∀ n ∈ F, 0 ≤ n ∧ n < S.length
  none : ∀ n ∈ F, S.getD n.toNat E0 = E0
theorem cut_ok {S : List ByteArray} {F : List Int} {n : Nat} (h : PgOk S F) (hr : recB S F n = true) :
    CutOk (S.set n E0) (sorted (F ++ [(n : Int)])) ∧ ∀ m, recB (S.set n E0) (sorted (F ++ [(n : Int)])) m = (recB S F m && !decide (m = n)) := by
  obtain ⟨h1, h2, h3⟩ := rec_iff.1 hr
  have hp := sorted_perm (F ++ [(n : Int)])
  have hmem : ∀ m : Int, m ∈ sorted (F ++ [(n : Int)]) ↔ m ∈ F ∨ m = n := fun m => by rw [hp.mem_iff]; simp
  have hnd : (F ++ [(n : Int)]).Nodup := by
    rw [List.nodup_append]
    exact ⟨rise_nodup h.rise, by simp, fun a ha b hb => by simp at hb; subst hb; exact fun e => h3 (e ▸ ha)⟩
  have hl := h.len
  refine ⟨⟨?_, sorted_rise hnd, fun m hm => ?_, fun m hm => ?_⟩, fun m => ?_⟩
  · have := sum_set S n
    unfold sizeP at hl
    simp [fitsB, sizeP]; omega
  · rw [List.length_set]
    rcases (hmem m).1 hm with hm | rfl
    · have := h.low m hm; omega
    · omega
  · rw [getD_set _ _ _ _ _ (by omega)]
    split
    · rfl
    · rcases (hmem m).1 hm with hm | rfl
      · exact h.none m hm
      · simp at *
  · rw [Bool.eq_iff_iff, Bool.and_eq_true, rec_iff, rec_iff, hmem]
    simp only [List.length_set, not_or, Bool.not_eq_true', decide_eq_false_iff_not]
    constructor
    · rintro ⟨a, b, c, d⟩; exact ⟨⟨a, b, c⟩, d⟩
    · rintro ⟨⟨a, b, c⟩, d⟩; exact ⟨a, b, c, d⟩

/-- s slots and f free ones are left when those at the end are taken away. -/
def Trim (S : List ByteArray) (F : List Int) (s f : Nat) : Prop :=
  s ≤ S.length ∧ f ≤ F.length ∧ S.length + f = F.length + s ∧ ∀ j, f ≤ j → j < F.length → F.getD j 0 = (s + (j - f) : Nat)
def Done (F : List Int) (s f : Nat) : Prop := 0 < f → F.getD (f - 1) 0 ≠ (s : Int) - 1
theorem trim_start (S : List ByteArray) (F : List Int) : Trim S F S.length F.length := ⟨Nat.le_refl _, Nat.le_refl _, by omega, fun j h1 h2 => by omega⟩
theorem trim_step {S : List ByteArray} {F : List Int} {s f : Nat} (h : Trim S F s f) (hf : 0 < f) (he : F.getD (f - 1) 0 = (s : Int) - 1) (h0 : 0 ≤ F.getD (f - 1) 0) : 0 < s ∧ Trim S F (s - 1) (f - 1) := by
  obtain ⟨a, b, c, d⟩ := h
  refine ⟨by omega, by omega, by omega, by omega, fun j h1 h2 => ?_⟩
  by_cases e : j = f - 1
  · subst e; rw [he]; omega
  · rw [d j (by omega) h2]; omega
theorem getD_mem {F : List Int} {j : Nat} (h : j < F.length) : F.getD j 0 ∈ F := by
  have : F[j]? = some (F.getD j 0) := by simp [List.getD, h]
  exact List.mem_of_getElem? this
theorem mem_getD {F : List Int} {m : Int} (h : m ∈ F) : ∃ j, j < F.length ∧ F.getD j 0 = m := by
  obtain ⟨j, hj, e⟩ := List.mem_iff_getElem.1 h
  exact ⟨j, hj, by simp [List.getD, hj, e]⟩
theorem rise_getD {F : List Int} (h : F.Pairwise (· < ·)) {i j : Nat} (hij : i < j) (hj : j < F.length) : F.getD i 0 < F.getD j 0 := by
  have := List.pairwise_iff_getElem.1 h i j (by omega) hj hij
  simpa [List.getD, hj, show i < F.length by omega] using this
theorem trim_ok {S : List ByteArray} {F : List Int} {s f : Nat} (h : CutOk S F) (ht : Trim S F s f) (hd : Done F s f) :
    PgOk (S.take s) (F.take f) ∧ (∀ m, recB (S.take s) (F.take f) m = recB S F m) := by
  obtain ⟨a, b, c, d⟩ := ht
  have hls : (S.take s).length = s := by rw [List.length_take]; omega
  have hlf : (F.take f).length = f := by rw [List.length_take]; omega
  have hget : ∀ j, j < f → (F.take f).getD j 0 = F.getD j 0 := fun j hj => getD_take _ _ _ _ hj
  have hlow : ∀ j, j < f → F.getD j 0 < s := fun j hj => by
    by_cases e : f = F.length
    · have h9 := (h.low _ (getD_mem (F := F) (j := j) (by omega))).2
      omega
    · have h1 := d f (Nat.le_refl _) (by omega)
      have h2 := rise_getD h.rise (i := j) (j := f) hj (by omega)
      omega
  have hlow2 : ∀ j, j < f → F.getD j 0 + 1 < s := fun j hj => by
    have h1 := hlow (f - 1) (by omega)
    have h2 := hd (by omega)
    by_cases e : j = f - 1
    · subst e; omega
    · have := rise_getD h.rise (i := j) (j := f - 1) (by omega) (by omega)
      omega
  have hmem : ∀ m, m ∈ F.take f ↔ ∃ j, j < f ∧ F.getD j 0 = m := fun m => by
    constructor
    · intro hm
      obtain ⟨j, hj, e⟩ := mem_getD hm
      rw [hlf] at hj
      exact ⟨j, hj, by rw [← hget j hj]; exact e⟩
    · rintro ⟨j, hj, rfl⟩
      rw [← hget j hj]
      exact getD_mem (by omega)
  have hfit : S.length ≤ 16 ∧ sizeP S ≤ 200 := by have := h.fits; simpa [fitsB] using this
  unfold sizeP at hfit
  refine ⟨⟨?_, h.rise.take, fun m hm => ?_, fun m hm => ?_⟩, fun m => ?_⟩
  · have := sum_take S s
    have h8 : (S.take s).length ≤ 16 ∧ sizeP (S.take s) ≤ 200 := by unfold sizeP; rw [hls]; omega
    simpa [fitsB] using h8
  · obtain ⟨j, hj, rfl⟩ := (hmem m).1 hm
    have h1 := (h.low _ (getD_mem (F := F) (j := j) (by omega))).1
    rw [hls]
    exact ⟨h1, hlow2 j hj⟩
  · obtain ⟨j, hj, rfl⟩ := (hmem m).1 hm
    have h1 := (h.low _ (getD_mem (F := F) (j := j) (by omega))).1
    have h2 := hlow j hj
    rw [getD_take _ _ _ _ (by omega)]
    exact h.none _ (getD_mem (by omega))
  · rw [Bool.eq_iff_iff, rec_iff, rec_iff, hls, hmem]
    constructor
    · rintro ⟨h1, h2, h3⟩
      refine ⟨h1, by omega, fun hm => ?_⟩
      obtain ⟨j, hj, e⟩ := mem_getD hm
      by_cases hjf : j < f
      · exact h3 ⟨j, hjf, e⟩
      · have := d j (by omega) hj; omega
    · rintro ⟨h1, h2, h3⟩
      have hms : m < s := by
        rcases Int.lt_or_le m s with hlt | hge
        · exact hlt
        · refine absurd ?_ h3
          have hj : f + (m.toNat - s) < F.length := by omega
          have := d _ (by omega) hj
          rw [show f + (m.toNat - s) - f = m.toNat - s by omega] at this
          have e : F.getD (f + (m.toNat - s)) 0 = m := by omega
          rw [← e]; exact getD_mem hj
      exact ⟨h1, hms, fun ⟨j, hj, e⟩ => h3 (e ▸ getD_mem (by omega))⟩
theorem trim_text {S : List ByteArray} {n s : Nat} {m : Nat} (hm : m < s) (hmn : m ≠ n) (hn : n < S.length) : ((S.set n E0).take s).getD m E0 = S.getD m E0 := by
  rw [getD_take _ _ _ _ hm, getD_set _ _ _ _ _ hn, if_neg (fun e => hmn e.symm)]
/-- No record: no slot, nothing free. -/
theorem empty_of {S : List ByteArray} {F : List Int} (h : PgOk S F) (hn : ∀ m : Nat, m < 16 → recB S F m = false) : S = [] ∧ F = [] := by
  have hl := h.len.1
  have h0 : S.length = 0 := by
    apply Classical.byContradiction
    intro h0
    have h1 := hn (S.length - 1) (by omega)
    have h2 : recB S F (S.length - 1 : Nat) = true := rec_iff.2 ⟨by omega, by omega, fun hm => by have := h.low _ hm; omega⟩
    rw [h2] at h1; cases h1
  have hs := List.length_eq_zero_iff.1 h0
  subst hs
  refine ⟨rfl, ?_⟩
  cases F with
  | nil => rfl
  | cons x r => have := h.low x (List.mem_cons_self ..); simp at this; omega
end Go.Proofs.Ytcbablighgooeaa
