/- Tapes, as plain functions on lists. No condition. -/
import Derived.Test.YtgaalahlkllkaaaTpMem
namespace Go.Proofs.Ytgaalahlkllkaaa
open Go.RowKit

/-- A step: whether all that waits is to be there, else a put. -/
structure Dd where
  g : Bool
  p : Pt
instance : Inhabited Dd := ⟨⟨false, default⟩⟩
/-- What is wrong with a put, at so many sectors. -/
def faultE (n : Nat) (i : Int) (s : ByteArray) : Int := if decide (0 ≤ i) && decide (i < (n : Int)) then (if s.size = 32 then 0 else 1) else 3
/-- A tape that may be. -/
structure TpOk (S : List ByteArray) (l : List Pt) : Prop where
  low : 1 ≤ S.length
  top : S.length ≤ 512
  many : l.length ≤ 2048
  txt : ∀ s ∈ S, s.size = 32
  put : ∀ x ∈ l, 0 ≤ x.i ∧ x.i < (S.length : Int) ∧ x.s.size = 32
theorem TpOk.ss {S : List ByteArray} {l : List Pt} (h : TpOk S l) {B : Nat} {w : World} {v : Value} (ho : OwnS B w v S) : SsAt w v S :=
  ho.at (by have := h.top; omega) (fun s hs => by rw [h.txt s hs]; decide)
theorem TpOk.ps {S : List ByteArray} {l : List Pt} (h : TpOk S l) {B : Nat} {w : World} {v : Value} (ho : OwnP B w v l) : PsAt w v l :=
  ho.at (by have := h.many; omega) (fun x hx => by rw [(h.put x hx).2.2]; decide)
theorem faultE_ok {n : Nat} {i : Int} {s : ByteArray} (h0 : 0 ≤ i) (h1 : i < (n : Int)) (h2 : s.size = 32) : faultE n i s = 0 := by
  unfold faultE; simp [h0, h1, h2]
theorem faultE_zero {n : Nat} {i : Int} {s : ByteArray} (h : faultE n i s = 0) : 0 ≤ i ∧ i < (n : Int) ∧ s.size = 32 := by
  unfold faultE at h
  split at h
  · rename_i hc
    simp only [Bool.and_eq_true, decide_eq_true_eq] at hc
    split at h
    · rename_i hs; exact ⟨hc.1, hc.2, hs⟩
    · cases h
  · cases h

/-- The sectors with the puts there, in order. -/
def setP : List ByteArray → List Pt → List ByteArray
  | S, [] => S
  | S, x :: r => setP (S.set x.i.toNat x.s) r
theorem setP_length : ∀ (l : List Pt) (S : List ByteArray), (setP S l).length = S.length
  | [], S => rfl
  | x :: r, S => by rw [setP, setP_length r, List.length_set]
theorem setP_txt : ∀ (l : List Pt) (S : List ByteArray), (∀ s ∈ S, s.size = 32) → (∀ x ∈ l, x.s.size = 32) → ∀ s ∈ setP S l, s.size = 32
  | [], S, h, _ => h
  | x :: r, S, h, hl => by
    rw [setP]
    refine setP_txt r _ (fun s hs => ?_) (fun y hy => hl y (List.mem_cons_of_mem _ hy))
    rcases List.mem_or_eq_of_mem_set hs with hs | rfl
    · exact h s hs
    · exact hl x List.mem_cons_self
theorem setP_snoc : ∀ (l : List Pt) (S : List ByteArray) (x : Pt), setP S (l ++ [x]) = (setP S l).set x.i.toNat x.s
  | [], S, x => rfl
  | y :: r, S, x => by rw [List.cons_append, setP, setP, setP_snoc r]
/-- A sector as it was put last. -/
def seeP (i : Int) : ByteArray → List Pt → ByteArray
  | s, [] => s
  | s, x :: r => seeP i (if x.i = i then x.s else s) r
theorem seeP_set : ∀ (l : List Pt) (S : List ByteArray) (k : Nat), k < S.length → (∀ x ∈ l, 0 ≤ x.i) → seeP k (S.getD k E0) l = (setP S l).getD k E0
  | [], S, k, _, _ => rfl
  | x :: r, S, k, hk, h => by
    rw [seeP, setP, ← seeP_set r (S.set x.i.toNat x.s) k (by rw [List.length_set]; exact hk) (fun y hy => h y (List.mem_cons_of_mem _ hy))]
    have h0 := h x List.mem_cons_self
    by_cases hx : x.i = (k : Int)
    · have : x.i.toNat = k := by omega
      rw [if_pos hx, this]
      simp [List.getD, hk]
    · have : x.i.toNat ≠ k := by omega
      rw [if_neg hx]
      simp [List.getD, List.getElem?_set_ne this]
theorem seeP_size : ∀ (l : List Pt) (i : Int) (s : ByteArray), s.size = 32 → (∀ x ∈ l, x.s.size = 32) → (seeP i s l).size = 32
  | [], i, s, h, _ => h
  | x :: r, i, s, h, hl => by
    rw [seeP]
    refine seeP_size r i _ ?_ (fun y hy => hl y (List.mem_cons_of_mem _ hy))
    split
    · exact hl x List.mem_cons_self
    · exact h
theorem TpOk.settled {S : List ByteArray} {l : List Pt} (h : TpOk S l) : TpOk (setP S l) [] :=
  ⟨by rw [setP_length]; exact h.low, by rw [setP_length]; exact h.top, by simp, setP_txt l S h.txt (fun x hx => (h.put x hx).2.2), fun x hx => by cases hx⟩
theorem TpOk.lost {S : List ByteArray} {l : List Pt} (h : TpOk S l) : TpOk S [] := ⟨h.low, h.top, by simp, h.txt, fun x hx => by cases hx⟩
theorem TpOk.sub {S : List ByteArray} {l m : List Pt} (h : TpOk S l) (hm : ∀ x ∈ m, x ∈ l) (hl : m.length ≤ l.length) : TpOk S m := ⟨h.low, h.top, Nat.le_trans hl h.many, h.txt, fun x hx => h.put x (hm x hx)⟩

/-- One step: its error; the sectors and what waits behind it. -/
def stepE (S : List ByteArray) (l : List Pt) (d : Dd) : Int := if d.g then 0 else if faultE S.length d.p.i d.p.s = 0 then (if 2048 ≤ l.length then 2 else 0) else faultE S.length d.p.i d.p.s
def stepS (S : List ByteArray) (l : List Pt) (d : Dd) : List ByteArray := if d.g then setP S l else S
def stepL (l : List Pt) (d : Dd) : List Pt := if d.g then [] else l ++ [d.p]
theorem TpOk.step {S : List ByteArray} {l : List Pt} (h : TpOk S l) {d : Dd} (he : stepE S l d = 0) : TpOk (stepS S l d) (stepL l d) := by
  unfold stepE at he
  unfold stepS stepL
  by_cases hg : d.g = true
  · rw [if_pos hg, if_pos hg]; exact h.settled
  · rw [if_neg hg] at he ⊢
    rw [if_neg hg]
    split at he
    · rename_i hf
      split at he
      · cases he
      · obtain ⟨f0, f1, f2⟩ := faultE_zero hf
        refine ⟨h.low, h.top, by rw [List.length_append]; simp; omega, h.txt, fun x hx => ?_⟩
        rcases List.mem_append.1 hx with hx | hx
        · exact h.put x hx
        · obtain rfl := List.mem_singleton.1 hx; exact ⟨f0, f1, f2⟩
    · rename_i hf; exact absurd he hf
/-- Steps, one by one: the error; the sectors and what waits behind them. -/
def playE : List ByteArray → List Pt → List Dd → Int
  | _, _, [] => 0
  | S, l, d :: r => if stepE S l d = 0 then playE (stepS S l d) (stepL l d) r else stepE S l d
def playS : List ByteArray → List Pt → List Dd → List ByteArray
  | S, _, [] => S
  | S, l, d :: r => playS (stepS S l d) (stepL l d) r
def playL : List Pt → List Dd → List Pt
  | l, [] => l
  | l, d :: r => playL (stepL l d) r
theorem tpOk_play : ∀ (D : List Dd) (S : List ByteArray) (l : List Pt), TpOk S l → playE S l D = 0 → TpOk (playS S l D) (playL l D)
  | [], _, _, h, _ => h
  | d :: r, S, l, h, he => by
    rw [playE] at he
    split at he
    · rename_i h0; exact tpOk_play r _ _ (h.step h0) he
    · rename_i h0; exact absurd he h0
/-- Empty sectors. -/
def zeroT (n : Nat) : ByteArray := ⟨(List.replicate n 0).toArray⟩
theorem zeroT_size (n : Nat) : (zeroT n).size = n := by
  show (List.replicate n (0 : UInt8)).toArray.size = n
  simp
def emptyS (n : Nat) : List ByteArray := List.replicate n (zeroT 32)
theorem emptyS_ok {n : Nat} (h1 : 1 ≤ n) (h2 : n ≤ 512) : TpOk (emptyS n) [] :=
  ⟨by simpa [emptyS] using h1, by simpa [emptyS] using h2, by simp, fun s hs => by rw [List.eq_of_mem_replicate hs]; exact zeroT_size 32, fun x hx => by cases hx⟩
theorem emptyS_length (n : Nat) : (emptyS n).length = n := by simp [emptyS]
theorem emptyS_succ (n : Nat) : emptyS (n + 1) = emptyS n ++ [zeroT 32] := by
  unfold emptyS; rw [List.replicate_succ']
end Go.Proofs.Ytgaalahlkllkaaa
