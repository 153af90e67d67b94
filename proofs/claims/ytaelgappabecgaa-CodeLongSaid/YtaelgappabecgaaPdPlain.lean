/- What may be pending, as plain functions on lists. No condition. -/
import Derived.Test.YtaelgappabecgaaPdMem
namespace Go.Proofs.Ytaelgappabecgaa
open Go.RowKit

/-- What Key, Value tell. -/
def errE (b : Bool) : Int := if b then 0 else 1
def kB (s : ByteArray) : Bool := decide (1 ≤ s.size) && decide (s.size ≤ 12)
def valB (s : ByteArray) : Bool := decide (s.size ≤ 20)
def plB (t : Int) (k : ByteArray) : Bool := decide (0 ≤ t) && (decide (t < 3) && kB k)
def wOk (x : Wr) : Bool := plB x.t x.k && (valB x.s && !(x.g && !(decide (x.s.size = 0))))
/-- Not falling, from a on, up to n. -/
def mOk (n : Int) : Int → List Int → Bool
  | _, [] => true
  | a, m :: r => decide (a ≤ m) && (decide (m ≤ n) && mOk n m r)
def pOk (l : List Wr) (ms : List Int) : Bool := decide (l.length ≤ 12) && (decide (ms.length ≤ 6) && (l.all wOk && mOk l.length 0 ms))

theorem pOk_parts {l : List Wr} {ms : List Int} (h : pOk l ms = true) : l.length ≤ 12 ∧ ms.length ≤ 6 ∧ l.all wOk = true ∧ mOk l.length 0 ms = true := by
  unfold pOk at h
  simp only [Bool.and_eq_true, decide_eq_true_eq] at h
  exact ⟨h.1, h.2.1, h.2.2.1, h.2.2.2⟩
theorem pOk_of {l : List Wr} {ms : List Int} (h1 : l.length ≤ 12) (h2 : ms.length ≤ 6) (h3 : l.all wOk = true) (h4 : mOk l.length 0 ms = true) : pOk l ms = true := by
  unfold pOk; simp only [h1, h2, h3, h4, decide_true, Bool.and_self]
theorem wOk_small {x : Wr} (h : wOk x = true) : x.k.size ≤ 140737488355328 ∧ x.s.size ≤ 140737488355328 := by
  unfold wOk plB kB valB at h
  simp only [Bool.and_eq_true, decide_eq_true_eq] at h
  omega
theorem OwnW.ok {B : Nat} {w : World} {v : Value} {l : List Wr} {ms : List Int} (h : OwnW B w v l) (hp : pOk l ms = true) : WsAt w v l := by
  obtain ⟨h1, -, h3, -⟩ := pOk_parts hp
  exact h.at (by omega) (fun x hx => wOk_small (List.all_eq_true.1 h3 x hx))
theorem OwnN.ok {B : Nat} {w : World} {v : Value} {l : List Wr} {ms : List Int} (h : OwnN B w v ms) (hp : pOk l ms = true) : IntsAt w v ms := by
  obtain ⟨-, h1, -, -⟩ := pOk_parts hp
  exact h.at (by omega)
theorem mOk_more {n n' : Int} (hn : n ≤ n') : ∀ {a : Int} {l : List Int}, mOk n a l = true → mOk n' a l = true
  | _, [], _ => rfl
  | a, m :: r, h => by
    simp only [mOk, Bool.and_eq_true, decide_eq_true_eq] at h ⊢
    exact ⟨h.1, by omega, mOk_more hn h.2.2⟩
theorem mOk_snoc {n : Int} : ∀ {a : Int} {l : List Int}, a ≤ n → mOk n a l = true → mOk n a (l ++ [n]) = true
  | a, [], ha, _ => by simp [mOk, ha]
  | a, m :: r, ha, h => by
    simp only [mOk, Bool.and_eq_true, decide_eq_true_eq, List.cons_append] at h ⊢
    exact ⟨h.1, h.2.1, mOk_snoc h.2.1 h.2.2⟩
theorem mOk_front {n : Int} : ∀ {a : Int} {l m : List Int}, mOk n a (l ++ m) = true → mOk n a l = true
  | _, [], _, _ => rfl
  | a, x :: r, m, h => by
    simp only [mOk, Bool.and_eq_true, decide_eq_true_eq, List.cons_append] at h ⊢
    exact ⟨h.1, h.2.1, mOk_front h.2.2⟩
theorem mOk_range {n : Int} : ∀ {a : Int} {l : List Int}, mOk n a l = true → ∀ m ∈ l, a ≤ m ∧ m ≤ n
  | _, [], _, m, hm => by cases hm
  | a, x :: r, h, m, hm => by
    simp only [mOk, Bool.and_eq_true, decide_eq_true_eq] at h
    rcases List.mem_cons.1 hm with rfl | hm
    · exact ⟨h.1, h.2.1⟩
    · have := mOk_range h.2.2 m hm
      exact ⟨by omega, this.2⟩
/-- Behind a savepoint: what was there, and what came. -/
structure Bk (l : List Wr) (ms : List Int) (L : List Wr) (M : List Int) : Prop where
  ok : pOk L M = true
  pre : ∃ e, L = l ++ e
  mrk : ∃ r, M = ms ++ (l.length : Int) :: r
theorem Bk.len {l : List Wr} {ms : List Int} {L : List Wr} {M : List Int} (h : Bk l ms L M) : l.length ≤ L.length ∧ ms.length + 1 ≤ M.length := by
  obtain ⟨-, ⟨e, rfl⟩, ⟨r, rfl⟩⟩ := h
  simp only [List.length_append, List.length_cons]
  omega
theorem Bk.start {l : List Wr} {ms : List Int} (h : pOk l ms = true) (hm : ms.length < 6) : Bk l ms l (ms ++ [(l.length : Int)]) := by
  obtain ⟨h1, h2, h3, h4⟩ := pOk_parts h
  exact ⟨pOk_of h1 (by rw [List.length_append]; simp; omega) h3 (mOk_snoc (by omega) h4), ⟨[], (List.append_nil l).symm⟩, ⟨[], rfl⟩⟩
theorem Bk.put {l : List Wr} {ms : List Int} {L : List Wr} {M : List Int} (h : Bk l ms L M) {x : Wr} (hx : wOk x = true) (hl : L.length < 12) : Bk l ms (L ++ [x]) M := by
  obtain ⟨h1, h2, h3, h4⟩ := pOk_parts h.ok
  obtain ⟨e, he⟩ := h.pre
  refine ⟨pOk_of (by rw [List.length_append]; simp; omega) h2 (by rw [List.all_append]; simp [h3, hx]) (mOk_more (by rw [List.length_append]; simp; omega) h4), ⟨e ++ [x], by rw [he, List.append_assoc]⟩, h.mrk⟩
theorem Bk.save {l : List Wr} {ms : List Int} {L : List Wr} {M : List Int} (h : Bk l ms L M) (hm : M.length < 6) : Bk l ms L (M ++ [(L.length : Int)]) := by
  obtain ⟨h1, h2, h3, h4⟩ := pOk_parts h.ok
  obtain ⟨r, hr⟩ := h.mrk
  exact ⟨pOk_of h1 (by rw [List.length_append]; simp; omega) h3 (mOk_snoc (by omega) h4), h.pre, ⟨r ++ [(L.length : Int)], by rw [hr, List.append_assoc, List.cons_append]⟩⟩
theorem Bk.release {l : List Wr} {ms : List Int} {L : List Wr} {M : List Int} (h : Bk l ms L M) (hm : ms.length + 1 < M.length) : Bk l ms L (M.take (M.length - 1)) := by
  obtain ⟨h1, h2, h3, h4⟩ := pOk_parts h.ok
  obtain ⟨r, hr⟩ := h.mrk
  refine ⟨pOk_of h1 (by rw [List.length_take]; omega) h3 (mOk_front (m := M.drop (M.length - 1)) (by rw [List.take_append_drop]; exact h4)), h.pre, ⟨r.take (M.length - 1 - ms.length - 1), ?_⟩⟩
  have hlen : M.length = ms.length + (r.length + 1) := by rw [hr]; simp
  rw [hr, List.take_append, List.take_of_length_le (by simp)]
  rw [hr] at hm
  simp only [List.length_append, List.length_cons] at hm ⊢
  rw [show ms.length + (r.length + 1) - 1 - ms.length = (ms.length + (r.length + 1) - 1 - ms.length - 1) + 1 by omega, List.take_succ_cons, Nat.add_sub_cancel]
/-- The mark that was laid stands where it was laid. -/
theorem Bk.mark {l : List Wr} {ms : List Int} {L : List Wr} {M : List Int} (h : Bk l ms L M) : M[ms.length]? = some (l.length : Int) ∧ L.take l.length = l ∧ M.take (ms.length + 1) = ms ++ [(l.length : Int)] := by
  obtain ⟨-, ⟨e, rfl⟩, ⟨r, rfl⟩⟩ := h
  refine ⟨by simp, by simp, ?_⟩
  rw [show ms ++ (l.length : Int) :: r = (ms ++ [(l.length : Int)]) ++ r by simp]
  exact List.take_left' (by simp)
end Go.Proofs.Ytaelgappabecgaa
