/- Records as bytes, as plain functions on lists. No condition. -/
import Derived.Test.YtaelgappabecgaaPdPlain
namespace Go.Proofs.Ytaelgappabecgaa
open Go.RowKit

/-- The last bytes of n, the highest first. -/
def encN (n : Nat) : Nat → List UInt8
  | 0 => []
  | k + 1 => UInt8.ofNat (n / 256 ^ k) :: encN n k
/-- The number of bytes, the highest first, behind a. -/
def decA (a : Nat) (l : List UInt8) : Nat := l.foldl (fun n b => n * 256 + b.toNat) a
def decN (l : List UInt8) : Nat := decA 0 l
theorem encN_length (n k : Nat) : (encN n k).length = k := by
  induction k with
  | zero => rfl
  | succ k ih => simp [encN, ih]
theorem decA_enc (n k : Nat) : ∀ a, decA a (encN n k) = a * 256 ^ k + n % 256 ^ k := by
  induction k with
  | zero => intro a; simp [decA, encN, Nat.mod_one]
  | succ k ih =>
    intro a
    have e : decA a (encN n (k + 1)) = decA (a * 256 + n / 256 ^ k % 256) (encN n k) := by simp [decA, encN]
    rw [e, ih]
    have h1 : n % 256 ^ (k + 1) = (n / 256 ^ k % 256) * 256 ^ k + n % 256 ^ k := by
      rw [Nat.pow_succ, Nat.mod_mul, Nat.mul_comm (256 ^ k) (n / 256 ^ k % 256)]; omega
    rw [h1, Nat.pow_succ, Nat.add_mul, Nat.mul_assoc, Nat.mul_comm 256 (256 ^ k)]
    omega
theorem decN_enc {n k : Nat} (h : n < 256 ^ k) : decN (encN n k) = n := by
  rw [decN, decA_enc, Nat.zero_mul, Nat.zero_add, Nat.mod_eq_of_lt h]
theorem decA_lt : ∀ (l : List UInt8) (a : Nat), decA a l < (a + 1) * 256 ^ l.length
  | [], a => by simp [decA]
  | b :: r, a => by
    have h := decA_lt r (a * 256 + b.toNat)
    have hb : b.toNat < 256 := b.toNat_lt
    have e : decA a (b :: r) = decA (a * 256 + b.toNat) r := rfl
    rw [e, List.length_cons, Nat.pow_succ]
    refine Nat.lt_of_lt_of_le h ?_
    rw [Nat.mul_comm (256 ^ r.length) 256, ← Nat.mul_assoc]
    exact Nat.mul_le_mul_right _ (by omega)
theorem decN_lt (l : List UInt8) : decN l < 256 ^ l.length := by
  have := decA_lt l 0
  rw [Nat.zero_add, Nat.one_mul] at this
  exact this
theorem decN_take (l : List UInt8) (k : Nat) : decN (l.take k) < 256 ^ k :=
  Nat.lt_of_lt_of_le (decN_lt _) (Nat.pow_le_pow_right (by decide) (by rw [List.length_take]; omega))

def toB (l : List UInt8) : ByteArray := ⟨l.toArray⟩
theorem toB_list (s : ByteArray) : toB s.data.toList = s := rfl
theorem toB_data (l : List UInt8) : (toB l).data.toList = l := rfl
theorem toB_size (l : List UInt8) : (toB l).size = l.length := by
  show l.toArray.size = l.length
  simp

/-- A write's bytes. -/
def wBytes (x : Wr) : List UInt8 := encN x.t.toNat 1 ++ (encN (if x.g then 1 else 0) 1 ++ ((encN x.k.size 1 ++ x.k.data.toList) ++ (encN x.s.size 1 ++ x.s.data.toList)))
/-- A record's bytes. -/
def rBytes (c : Int) (l : List Wr) : List UInt8 := encN c.toNat 4 ++ (encN l.length 4 ++ l.flatMap wBytes)
def rOk (c : Int) (l : List Wr) : Bool := decide (1 ≤ c) && (decide (c ≤ 1073741824) && (decide (l.length ≤ 64) && l.all wOk))

/-- What a text's bytes tell: a text with its length ahead. -/
def txtP (l : List UInt8) : ByteArray × List UInt8 := (toB ((l.drop 1).take (decN (l.take 1))), (l.drop 1).drop (decN (l.take 1)))
def wrP (l : List UInt8) : Wr × List UInt8 :=
  let p := txtP ((l.drop 1).drop 1)
  let q := txtP p.2
  (⟨decN (l.take 1), p.1, q.1, !decide (decN ((l.drop 1).take 1) = 0)⟩, q.2)
def wrsP : Nat → List UInt8 → List Wr
  | 0, _ => []
  | n + 1, l => (wrP l).1 :: wrsP n (wrP l).2
def recP (l : List UInt8) : Int × List Wr := (decN (l.take 4), wrsP (min (decN ((l.drop 4).take 4)) 64) ((l.drop 4).drop 4))
/-- The record that a text's bytes just are. -/
def takeP (l : List UInt8) : Option (Int × List Wr) := if rOk (recP l).1 (recP l).2 && decide (rBytes (recP l).1 (recP l).2 = l) then some (recP l) else none

theorem enc_front (n k : Nat) (r : List UInt8) : (encN n k ++ r).take k = encN n k ∧ (encN n k ++ r).drop k = r :=
  ⟨List.take_left' (encN_length n k), List.drop_left' (encN_length n k)⟩
theorem txtP_of (s : ByteArray) (r : List UInt8) (h : s.size < 256) : txtP ((encN s.size 1 ++ s.data.toList) ++ r) = (s, r) := by
  have hl : s.data.toList.length = s.size := Array.length_toList
  unfold txtP
  rw [List.append_assoc, (enc_front _ _ _).1, (enc_front _ _ _).2, decN_enc (by omega), List.take_left' hl, List.drop_left' hl, toB_list]
theorem wrP_of (x : Wr) (r : List UInt8) (h : wOk x = true) : wrP (wBytes x ++ r) = (x, r) := by
  obtain ⟨t, k, s, g⟩ := x
  unfold wOk plB kB valB at h
  simp only [Bool.and_eq_true, decide_eq_true_eq] at h
  unfold wrP wBytes
  dsimp only
  rw [List.append_assoc, (enc_front _ _ _).1, (enc_front _ _ _).2, List.append_assoc, (enc_front _ _ _).1, (enc_front _ _ _).2, List.append_assoc, txtP_of _ _ (by omega), decN_enc (by omega), decN_enc (by split <;> decide)]
  dsimp only
  rw [txtP_of _ _ (by omega)]
  dsimp only
  rw [Int.toNat_of_nonneg (by omega)]
  cases g <;> rfl
theorem wrsP_of : ∀ (l : List Wr) (r : List UInt8), l.all wOk = true → wrsP l.length (l.flatMap wBytes ++ r) = l
  | [], _, _ => rfl
  | x :: l, r, h => by
    rw [List.all_cons, Bool.and_eq_true] at h
    rw [List.flatMap_cons, List.append_assoc, List.length_cons, wrsP, wrP_of x _ h.1]
    dsimp only
    rw [wrsP_of l r h.2]
theorem rOk_parts {c : Int} {l : List Wr} (h : rOk c l = true) : 1 ≤ c ∧ c ≤ 1073741824 ∧ l.length ≤ 64 ∧ l.all wOk = true := by
  unfold rOk at h
  simp only [Bool.and_eq_true, decide_eq_true_eq] at h
  exact ⟨h.1, h.2.1, h.2.2.1, h.2.2.2⟩
theorem recP_of {c : Int} {l : List Wr} (h : rOk c l = true) : recP (rBytes c l) = (c, l) := by
  obtain ⟨h1, h2, h3, h4⟩ := rOk_parts h
  unfold recP rBytes
  rw [(enc_front _ _ _).1, (enc_front _ _ _).2, (enc_front _ _ _).1, (enc_front _ _ _).2, decN_enc (by omega), decN_enc (by omega), Nat.min_eq_left h3, Int.toNat_of_nonneg (by omega)]
  have := wrsP_of l [] h4
  rw [List.append_nil] at this
  rw [this]
/-- There and back. -/
theorem takeP_of {c : Int} {l : List Wr} (h : rOk c l = true) : takeP (rBytes c l) = some (c, l) := by
  unfold takeP
  rw [recP_of h]
  simp [h]
theorem takeP_ok {l : List UInt8} {r : Int × List Wr} (h : takeP l = some r) : rOk r.1 r.2 = true ∧ rBytes r.1 r.2 = l := by
  unfold takeP at h
  split at h
  · rename_i hb
    simp only [Bool.and_eq_true, decide_eq_true_eq] at hb
    obtain rfl := Option.some.inj h
    exact hb
  · cases h
theorem wBytes_len (x : Wr) (h : wOk x = true) : (wBytes x).length ≤ 36 := by
  unfold wOk plB kB valB at h
  simp only [Bool.and_eq_true, decide_eq_true_eq] at h
  simp only [wBytes, List.length_append, encN_length, Array.length_toList]
  have e1 : x.k.data.size = x.k.size := rfl
  have e2 : x.s.data.size = x.s.size := rfl
  omega
theorem flat_len : ∀ (l : List Wr), l.all wOk = true → (l.flatMap wBytes).length ≤ 36 * l.length
  | [], _ => Nat.le_refl _
  | x :: l, h => by
    rw [List.all_cons, Bool.and_eq_true] at h
    have h1 := wBytes_len x h.1
    have h2 := flat_len l h.2
    rw [List.flatMap_cons, List.length_append, List.length_cons]
    omega
theorem rBytes_len {c : Int} {l : List Wr} (h : rOk c l = true) : 8 ≤ (rBytes c l).length ∧ (rBytes c l).length ≤ 2312 := by
  obtain ⟨-, -, h3, h4⟩ := rOk_parts h
  have := flat_len l h4
  simp only [rBytes, List.length_append, encN_length]
  omega
end Go.Proofs.Ytaelgappabecgaa
