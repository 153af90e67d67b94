/- Contracts of the laws' helpers: at, digits. -/
import Derived.Test.YtaophiknldkfdaaGreatDoorTreeMi
import Derived.Test.YtaophiknldkfdaaGreatDoorTDel
namespace Go.Proofs.YtaophiknldkfdaaGreatDoor
open Go.RowKit

set_option maxHeartbeats 400000 in
theorem at_any (w : World) (f i n : Nat) (hf : f ≤ 2) (hi : i < n) (hn : n ≤ 1000) :
    Calls Tryz.prog 37 #[.int .i64 f, .int .i64 i, .int .i64 n] w fun e w' => e = .returned (.int .i64 (wayAt f i n : Nat)) ∧ w = w' := by
  have h1 : IntKind.i64.wrap ((n : Int) - 1) = (n : Int) - 1 := IntWalk.i64_in _ (by omega)
  have h2 : IntKind.i64.wrap ((n : Int) - 1 - (i : Int)) = (n : Int) - 1 - (i : Int) := IntWalk.i64_in _ (by omega)
  have h3 : IntKind.i64.wrap ((n : Int) - 1 - ((i / 2 : Nat) : Int)) = (n : Int) - 1 - ((i / 2 : Nat) : Int) := IntWalk.i64_in _ (by omega)
  have h4 : (i : Int).tdiv 2 = ((i / 2 : Nat) : Int) := by rw [Int.tdiv_eq_ediv_of_nonneg (by omega)]; rfl
  have h5 : (i : Int).tmod 2 = ((i % 2 : Nat) : Int) := by rw [Int.tmod_eq_emod_of_nonneg (by omega)]; rfl
  have h6 : IntKind.i64.wrap ((i / 2 : Nat) : Int) = ((i / 2 : Nat) : Int) := IntWalk.i64_in _ (by omega)
  have h7 : IntKind.i64.wrap ((i % 2 : Nat) : Int) = ((i % 2 : Nat) : Int) := IntWalk.i64_in _ (by omega)
  match f, hf with
  | 0, _ =>
    go_enter Tryz.func37, Tryz.ntmps37
    go_wp2
    go_ret
    exact ⟨rfl, rfl⟩
  | 1, _ =>
    go_enter Tryz.func37, Tryz.ntmps37
    go_wp2
    go_ret
    exact ⟨ret_int (by simp [wayAt]; omega), rfl⟩
  | 2, _ =>
    by_cases hp : i % 2 = 0
    · go_enter Tryz.func37, Tryz.ntmps37
      go_wp2
      go_ret
      exact ⟨ret_int (by simp [wayAt, hp]), rfl⟩
    · go_enter Tryz.func37, Tryz.ntmps37
      go_wp2
      go_ret
      exact ⟨ret_int (by simp [wayAt, hp]; omega), rfl⟩
theorem conv1 (W : World) (d : Nat) (x : Int) (hx : x = 48 + (d : Int)) (hd : d < 10) : (convert 68 9 (.slice (some ⟨W.heap.size, 0, none⟩) 1 1)).run Tryz.prog (W.alloc (.cells #[.int .u8 x] 5)) = .ok (.string ⟨#[(48 + d).toUInt8]⟩) (W.alloc (.cells #[.int .u8 x] 5)) := by
  subst hx
  refine run_convert_bytes_back (P := Tryz.prog) (W.alloc (.cells #[.int .u8 (48 + (d : Int))] 5)) 68 9 5 ⟨W.heap.size, 0, none⟩ 1 [(48 + d).toUInt8] Tryz.underlying68 Tryz.underlying5 Tryz.underlying9 (fun j hj => ?_)
  obtain rfl : j = 0 := by simpa using hj
  have h2 : (W.alloc (.cells #[.int .u8 (48 + (d : Int))] 5)).cell? ⟨W.heap.size, 0, none⟩ = some (.int .u8 (48 + (d : Int))) := by simp [go_sem]
  show (W.alloc _).cell? ⟨W.heap.size, 0, none⟩ = _
  rw [h2]
  congr 2
  simp
  omega
theorem bytes_cons (x : UInt8) (s : List UInt8) : (⟨(x :: s).toArray⟩ : ByteArray) = ⟨#[x]⟩ ++ ⟨s.toArray⟩ := by
  apply ByteArray.ext
  simp
def digL : Nat → Nat → List UInt8
  | 0, n => [(48 + n).toUInt8]
  | f + 1, n => if n ≤ 9 then [(48 + n).toUInt8] else digL f (n / 10) ++ [(48 + n % 10).toUInt8]
set_option maxRecDepth 100000 in
set_option maxHeartbeats 1000000 in
theorem digits_any (w : World) (n : Nat) (hn : n ≤ 9999) :
    Calls Tryz.prog 11 #[.int .i64 n] w fun e w' => e = .returned (.string ⟨(digL 4 n).toArray⟩) ∧ Below w.heap.size w w' := by
  have HW := Lib.hid hn
  go_enter Tryz.func11, Tryz.ntmps11
  go_wp2
  go_loopg [0, 3] 6 (fun g s0 s3 wr => ∃ (f m : Nat) (s : List UInt8), g = f + 2 ∧ f ≤ 4 ∧ m ≤ 9999 ∧ s0 = .int .i64 m ∧ s3 = .string ⟨s.toArray⟩ ∧ Hid (digL f m ++ s = digL 4 n) ∧ s.length + f ≤ 4 ∧ Hid (m < 10 ^ (f + 1)) ∧ Hid (Below w.heap.size w wr))
  case atStart => exact ⟨4, n, [], rfl, by omega, hn, rfl, rfl, Lib.hid (by simp), by simp, Lib.hid (by omega), Lib.hid (Below.refl _ _)⟩
  case round =>
    obtain ⟨f, m, s, hg, hf, hm, rfl, rfl, HD, hsl, HM, HB⟩ := hrel
    have hsl2 : ¬ 9223372036854775807 < 1 + s.length := by omega
    have h1 : (m : Int).tmod 10 = ((m % 10 : Nat) : Int) := by rw [Int.tmod_eq_emod_of_nonneg (by omega)]; rfl
    have h2 : (m : Int).tdiv 10 = ((m / 10 : Nat) : Int) := by rw [Int.tdiv_eq_ediv_of_nonneg (by omega)]; rfl
    have h3 : IntKind.i64.wrap ((m % 10 : Nat) : Int) = ((m % 10 : Nat) : Int) := IntWalk.i64_in _ (by omega)
    have h4 : IntKind.i64.wrap ((m / 10 : Nat) : Int) = ((m / 10 : Nat) : Int) := IntWalk.i64_in _ (by omega)
    by_cases hlt : 9 < m
    · have hlt2 : (9 : Int) < (m : Int) := by omega
      have HC : ∀ W : World, (convert 68 9 (.slice (some ⟨W.heap.size, 0, none⟩) 1 1)).run Tryz.prog (W.alloc (.cells #[.int .u8 (48 + (m : Int) % 10)] 5)) = .ok (.string ⟨#[(48 + m % 10).toUInt8]⟩) (W.alloc (.cells #[.int .u8 (48 + (m : Int) % 10)] 5)) := fun W => conv1 W (m % 10) _ (by omega) (by omega)
      cases f with
      | zero => have := HM.out; omega
      | succ f =>
      have HE : Hid (digL f (m / 10) ++ ((48 + m % 10).toUInt8 :: s) = digL 4 n) := Lib.hid (by
        have := HD.out
        rw [digL, if_neg (by omega)] at this
        simpa using this)
      have HX : Hid (m / 10 < 10 ^ (f + 1)) := Lib.hid (by
        have := HM.out
        rw [Nat.pow_succ] at this
        omega)
      go_wp2
      go_roundg (f + 2)
      case measure => omega
      case rel => exact ⟨f, m / 10, (48 + m % 10).toUInt8 :: s, rfl, by omega, by omega, by go_num, by have h := (bytes_cons (48 + m % 10).toUInt8 s).symm; simp at h ⊢; exact h, HE, by simp; omega, HX, Lib.hid (HB.out.trans (Below.mono (B := wr.heap.size) (by (repeat (first | exact Below.refl _ _ | assumption | refine nw_more ?_ _ _ | refine nw_alloc ?_ _ | refine nw_drew ?_ | refine nw_drewN ?_ _ | refine nw_set ?_ (by first | (simp; done) | (simp; omega) | omega) _))) HB.out.size))⟩
    · have hm9 : m ≤ 9 := by omega
      have hlt2 : ¬ (9 : Int) < (m : Int) := by omega
      have HC : ∀ W : World, (convert 68 9 (.slice (some ⟨W.heap.size, 0, none⟩) 1 1)).run Tryz.prog (W.alloc (.cells #[.int .u8 (48 + (m : Int))] 5)) = .ok (.string ⟨#[(48 + m).toUInt8]⟩) (W.alloc (.cells #[.int .u8 (48 + (m : Int))] 5)) := fun W => conv1 W m _ rfl (by omega)
      have h6 : IntKind.i64.wrap (48 + (m : Int)) = 48 + (m : Int) := IntWalk.i64_in _ (by omega)
      have HE : Hid ((48 + m).toUInt8 :: s = digL 4 n) := Lib.hid (by
        have := HD.out
        cases f with
        | zero => simpa [digL] using this
        | succ f => simpa [digL, hm9] using this)
      go_wp2
      go_ret
      exact ⟨by rw [← HE.out]; have h := (bytes_cons (48 + m).toUInt8 s).symm; simp at h ⊢; exact h, HB.out.trans (Below.mono (B := wr.heap.size) (by (repeat (first | exact Below.refl _ _ | assumption | refine nw_more ?_ _ _ | refine nw_alloc ?_ _ | refine nw_drew ?_ | refine nw_drewN ?_ _ | refine nw_set ?_ (by first | (simp; done) | (simp; omega) | omega) _))) HB.out.size)⟩
end Go.Proofs.YtaophiknldkfdaaGreatDoor
