/- The laws' keys. No condition. -/
import Derived.Test.YtaophiknldkfdaaGreatDoorTreeMi
import Derived.Test.YtaophiknldkfdaaGreatDoorTreeDg
namespace Go.Proofs.YtaophiknldkfdaaGreatDoor

def dig3 (i : Nat) : List UInt8 := 107 :: digL 4 (100 + i)
theorem dig3_less : ∀ a b : Fin 45, Op.bytesLess (dig3 a.val) (dig3 b.val) = decide (a.val < b.val) := by decide +kernel
theorem dig3_size : ∀ a : Fin 45, (dig3 a.val).length = 4 := by decide +kernel
/-- The keys "k100" to "k144". -/
def KK : Ks (Fin 45) where
  s := fun i => ⟨(dig3 i.val).toArray⟩
  lt := fun a b => decide (a.val < b.val)
  ok := fun _ => true
  hlt := fun a b => by
    unfold lessB
    rw [Lib.toList_data, Lib.toList_data]
    exact dig3_less a b
  hok := fun a => by
    have h : (⟨(dig3 a.val).toArray⟩ : ByteArray).size = 4 := dig3_size a
    rw [h]; rfl
  hsz := fun a => by
    have h : (⟨(dig3 a.val).toArray⟩ : ByteArray).size = 4 := dig3_size a
    rw [h]; decide
def keyK (k : Nat) : Fin 45 := ⟨k % 45, Nat.mod_lt _ (by decide)⟩
theorem keyK_is (k : Nat) (h : k < 45) : KK.s (keyK k) = (⟨#[107]⟩ : ByteArray) ++ ⟨(digL 4 (100 + k)).toArray⟩ := by
  show (⟨(dig3 (k % 45)).toArray⟩ : ByteArray) = _
  rw [Nat.mod_eq_of_lt h]
  exact bytes_cons 107 (digL 4 (100 + k))
end Go.Proofs.YtaophiknldkfdaaGreatDoor
