/- The laws' keys. No condition. -/
import Derived.Test.YtaophiknldkfdaaGreatDoorTreeMi
import Derived.Test.YtaophiknldkfdaaGreatDoorTreeDg
namespace Go.Proofs.YtaophiknldkfdaaGreatDoor

def dig3 (i : Nat) : List UInt8 := 107 :: digL 4 (100 + i)
theorem dig3_less : ∀ a b : Fin 45, Op.bytesLess (dig3 a.val) (dig3 b.val) = decide (a.val < b.val) := by decide +kernel
theorem dig3_size : ∀ a : Fin 45, (dig3 a.val).length = 4 := by decide +kernel
/-- The keys "k100" to "k144". -/
def KK : Ks (Fin 45) where
  s := fun i => ⟨(dig3 i.val).toArray⟩
  lt := fun a b => decide (a.val < b.val)
  ok := fun _ => true
  hlt := fun a b => by
    unfold lessB
    rw [Lib.toList_data, Lib.toList_data]
    exact dig3_less a b
  hok := fun a => by
    have h : (⟨(dig3 a.val).toArray⟩ : ByteArray).size = 4 := dig3_size a
    rw [h]; rfl
  hsz := fun a => by
    have h : (⟨(dig3 a.val).toArray⟩ : ByteArray).size = 4 := dig3_size a
    rw [h]; decide
def keyK (k : Nat) : Fin 45 := ⟨k % 45, Nat.mod_lt _ (by decide)⟩
theorem keyK_is (k : Nat) (h : k < 45) : KK.s (keyK k) = (⟨#[107]⟩ : ByteArray) ++ ⟨(digL 4 (100 + k)).toArray⟩ := by
  show (⟨(dig3 (k % 45)).toArray⟩ : ByteArray) = _
  rw [Nat.mod_eq_of_lt h]
  exact bytes_cons 107 (digL 4 (100 + k))
end Go.Proofs.YtaophiknldkfdaaGreatDoor
/- What the law of many keys does, as functions on lists, with the bounds that the contracts ask; its keys. No condition. -/
namespace Go.Proofs.YtaophiknldkfdaaGreatDoor

section
variable {α : Type} (K : Ks α)
/-- Keys cut one by one; what is left. -/
def cutsM (key : Nat → α) (order : Nat → Nat) : Nat → Nat → Tr α → Option (Tr α)
  | 0, _, t => some t
  | f + 1, i, t => match okT t with
    | false => none
    | true => match cutP K t (key (order i)) with
      | none => none
      | some t2 => match okT t2 with
        | false => none
        | true => cutsM key order f (i + 1) t2
def ordBy (n by_ i : Nat) : Nat := if n % by_ = 0 then i else i * by_ % n
def manyQ (key : Nat → α) (k0 : α) (n by_ : Nat) : Bool :=
  match addsQ K key (ordBy n by_) n 0 newP with
  | none => false
  | some t => okT t && (match countP K t, deepP K t k0 with
    | some c, some d => decide (c = n) && decide (d ≤ 7)
    | _, _ => false) && (findsP K key t n 0 && (match cutsM K key (fun i => wayAt 2 i n) n 0 t with
      | none => false
      | some t2 => okT t2 && match treeW K t2 with
        | none => false
        | some (rows, d) => decide (rows.length = 0) && decide (d = 1)))
variable {K}
theorem cutsM_step {key : Nat → α} {order : Nat → Nat} {f i : Nat} {t t' : Tr α} (h : cutsM K key order (f + 1) i t = some t') : okT t = true ∧ ∃ t2, cutP K t (key (order i)) = some t2 ∧ okT t2 = true ∧ cutsM K key order f (i + 1) t2 = some t' := by
  unfold cutsM at h
  split at h
  · cases h
  · rename_i h1
    split at h
    · cases h
    · rename_i t2 h2
      split at h
      · cases h
      · rename_i h3
        exact ⟨h1, t2, h2, h3, h⟩
theorem findsP_step {key : Nat → α} {f i : Nat} {t : Tr α} (h : findsP K key t (f + 1) i = true) : findP K t (key i) = some (i : Int) ∧ findsP K key t f (i + 1) = true := by
  unfold findsP at h
  rw [Bool.and_eq_true] at h
  obtain ⟨h1, h2⟩ := h
  split at h1
  · cases h1
  · rename_i r hr
    rw [decide_eq_true_eq] at h1
    exact ⟨by rw [hr, h1], h2⟩
theorem manyQ_parts {key : Nat → α} {k0 : α} {n by_ : Nat} (h : manyQ K key k0 n by_ = true) : ∃ t, addsQ K key (ordBy n by_) n 0 newP = some t ∧ okT t = true ∧ countP K t = some n ∧ (∃ d, deepP K t k0 = some d ∧ d ≤ 7) ∧ findsP K key t n 0 = true ∧ ∃ t2, cutsM K key (fun i => wayAt 2 i n) n 0 t = some t2 ∧ okT t2 = true ∧ treeW K t2 = some ([], 1) := by
  unfold manyQ at h
  split at h
  · cases h
  · rename_i t h1
    simp only [Bool.and_eq_true] at h
    obtain ⟨⟨h2, h3⟩, h4, h5⟩ := h
    split at h3
    · rename_i c d hc hd
      simp only [Bool.and_eq_true, decide_eq_true_eq] at h3
      obtain ⟨rfl, h6⟩ := h3
      split at h5
      · cases h5
      · rename_i t2 h7
        rw [Bool.and_eq_true] at h5
        obtain ⟨h8, h9⟩ := h5
        split at h9
        · cases h9
        · rename_i rows d2 h10
          simp only [Bool.and_eq_true, decide_eq_true_eq, List.length_eq_zero_iff] at h9
          obtain ⟨rfl, rfl⟩ := h9
          exact ⟨t, h1, h2, hc, ⟨d, hd, h6⟩, h4, t2, h7, h8, h10⟩
    · cases h3
theorem ordBy_lt {n by_ i : Nat} (h : i < n) : ordBy n by_ i < n := by
  unfold ordBy
  split
  · exact h
  · exact Nat.mod_lt _ (by omega)
end

def dig4 (i : Nat) : List UInt8 := match i with
  | 0 => []
  | i + 1 => 107 :: digL 4 (1000 + i)
theorem dig4_less : ∀ a b : Fin 101, Op.bytesLess (dig4 a.val) (dig4 b.val) = decide (a.val < b.val) := by decide +kernel
theorem dig4_size : ∀ a : Fin 101, (dig4 a.val).length = if a.val = 0 then 0 else 5 := by decide +kernel
/-- No key, and the keys "k1000" to "k1099". -/
def KM : Ks (Fin 101) where
  s := fun i => ⟨(dig4 i.val).toArray⟩
  lt := fun a b => decide (a.val < b.val)
  ok := fun a => decide (a.val ≠ 0)
  hlt := fun a b => by
    unfold lessB
    rw [Lib.toList_data, Lib.toList_data]
    exact dig4_less a b
  hok := fun a => by
    have h : (⟨(dig4 a.val).toArray⟩ : ByteArray).size = if a.val = 0 then 0 else 5 := dig4_size a
    rw [h]
    by_cases h0 : a.val = 0 <;> simp [h0]
  hsz := fun a => by
    have h : (⟨(dig4 a.val).toArray⟩ : ByteArray).size = if a.val = 0 then 0 else 5 := dig4_size a
    rw [h]
    split <;> decide
def keyM (k : Nat) : Fin 101 := ⟨k % 100 + 1, by have := Nat.mod_lt k (show 0 < 100 by decide); omega⟩
theorem keyM_is (k : Nat) (h : k < 100) : KM.s (keyM k) = (⟨#[107]⟩ : ByteArray) ++ ⟨(digL 4 (1000 + k)).toArray⟩ := by
  show (⟨(dig4 (k % 100 + 1)).toArray⟩ : ByteArray) = _
  rw [Nat.mod_eq_of_lt h]
  exact bytes_cons 107 (digL 4 (1000 + k))
def noM : Fin 101 := 0
theorem noM_is : KM.s noM = { data := #[] } := rfl
def byM (j : Nat) : Nat := match j with
  | 0 => 1
  | 1 => 7
  | 2 => 11
  | 3 => 37
  | _ => 101
end Go.Proofs.YtaophiknldkfdaaGreatDoor
