/- Contracts: texts of zeros; empty tapes. No condition. -/
import Derived.Test.YtgaalahlkllkaaaTpC
import Derived.Laws.IdiomStrings
import Derived.Laws.OwnMore
import Derived.OwnWalk
namespace Go.Proofs.Ytgaalahlkllkaaa
open Go.RowKit

theorem info_u8 : (Try.prog.info? 5).map (fun i => (i.zero, i.size, i.bytes)) = some (some (.int .u8 0), 1, 1) := by kernel_rfl
/-- Bytes in memory as a text. -/
theorem conv_bs (X : World) (g off cap : Nat) (L : List UInt8) (hc : ∀ j (hj : j < L.length), X.cell? ⟨g, off + j, none⟩ = some (.int .u8 (L[j].toNat : Int))) :
    (convert 66 9 (.slice (some ⟨g, off, none⟩) L.length cap)).run Try.prog X = .ok (.string ⟨L.toArray⟩) X :=
  run_convert_bytes_back X 66 9 5 ⟨g, off, none⟩ cap L Try.underlying66 Try.underlying5 Try.underlying9 (fun j hj => by rw [add_none]; exact hc j hj)
theorem conv_zeros (X : World) (B g n : Nat) (h : X.ownsRow B 5 1 (.slice (some ⟨g, 0, none⟩) n n) n (madeCells #[Value.int .u8 0] n).toList) :
    (convert 66 9 (.slice (some ⟨g, 0, none⟩) n n)).run Try.prog X = .ok (.string (zeroT n)) X := by
  have := conv_bs X g 0 n (List.replicate n 0) (fun j hj => by
    have hj2 : j < n := by simpa using hj
    rw [Nat.zero_add, World.ownsRow.cellAt h j (by omega)]
    rw [toList_madeCells_one]
    simp [hj2])
  rw [List.length_replicate] at this
  exact this
set_option maxHeartbeats 1000000 in
theorem zeros_any (n : Nat) (w : World) (hn : n ≤ 1000) :
    Calls Try.prog 16 #[.int .i64 n] w fun e w' => e = .returned (.string (zeroT n)) ∧ Below w.heap.size w w' := by
  obtain ⟨i0, hi, hz0, hz1, hz2⟩ := info_parts info_u8
  have HI := Lib.hid hi
  clear hi
  go_enter Try.func16, Try.ntmps16
  go_wp2_with (at_make; refine wpList_make_full _ rfl _ _ 66 rfl w.heap.size 5 i0 (.int .u8 0) 1 Try.underlying66 HI.out hz0 hz1 .i64 .i64 n n n rfl rfl rfl rfl ?c1 ?c2 ?c3 ?_)
  case c1 => rw [hz2]; omega
  case c2 => unfold maxLen; omega
  case c3 => simp
  intro w1 hown hgrow
  have hcv := conv_zeros w1 _ _ n hown
  have hb : Below w.heap.size w w1 := (Below.refl _ w).grown hgrow (Nat.le_refl _) (by intro k hk; cases hk)
  clear hown hgrow
  go_wp2
  go_ret
  exact ⟨rfl, hb⟩
end Go.Proofs.Ytgaalahlkllkaaa
