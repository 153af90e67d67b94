/- Contract: the program's empty tape. No condition. -/
import Derived.Test.YtgaalahlkllkaaaTpF
namespace Go.Proofs.Ytgaalahlkllkaaa
open Go.RowKit

/-- A block of 32 zeros. -/
def zObj : Obj := .cells (madeCells #[Value.int .u8 0] 32) 5
theorem make_zeros (X : World) : (Instr.makeSlice 66 (.int .i64 32) (.int .i64 32)).run Try.prog X = .ok (.slice (some ⟨X.heap.size, 0, none⟩) 32 32) (X.alloc zObj) := by
  obtain ⟨j0, hj, hy0, hy1, -⟩ := info_parts info_u8
  have hr := run_make (P := Try.prog) X 66 5 j0 (.int .u8 0) Try.underlying66 hj hy0 .i64 .i64 32 32 (by decide) (by decide) (by
    obtain ⟨j1, hj1, -, -, hy2⟩ := info_parts info_u8
    obtain rfl : j1 = j0 := by rw [hj] at hj1; exact (Option.some.inj hj1).symm
    rw [hy2]; decide) (by decide)
  rw [hy1] at hr
  exact hr
theorem conv_made (X : World) : (convert 66 9 (.slice (some ⟨X.heap.size, 0, none⟩) 32 32)).run Try.prog (X.alloc zObj) = .ok (.string (zeroT 32)) (X.alloc zObj) :=
  conv_zeros (X.alloc zObj) 0 X.heap.size 32 (World.ownsRow_lit X _ 32 (Nat.zero_le _) (by decide) (size_madeCells _ _))
theorem conv_drew (X : World) : (convert 66 9 (.slice (some ⟨X.heap.size, 0, none⟩) 32 32)).run Try.prog (X.alloc zObj).drew = .ok (.string (zeroT 32)) (X.alloc zObj).drew :=
  conv_zeros (X.alloc zObj).drew 0 X.heap.size 32 (World.ownsRow.drew (World.ownsRow_lit X _ 32 (Nat.zero_le _) (by decide) (size_madeCells _ _)))
set_option maxRecDepth 100000 in
set_option maxHeartbeats 4000000 in
theorem tNew_any (N : Nat) (w : World) (h1 : 1 ≤ N) (hn : N ≤ 512) :
    Calls Try.prog 28 #[.int .i64 N] w fun e w' => ∃ u, e = .returned (.tuple #[.agg #[u, .slice none 0 0], .int .i64 0]) ∧ OwnS w.heap.size w' u (emptyS N) ∧ Below w.heap.size w w' := by
  obtain ⟨i0, hi, hz0, hz1, hz2⟩ := info_parts info_string
  have HI := Lib.hid hi
  have HZ : Hid ((decide (1 ≤ (N : Int)) && decide ((N : Int) ≤ 512)) = true) := Lib.hid (by simp; omega)
  clear hi
  go_enter Try.func28, Try.ntmps28
  go_wp2_with (first | (go_at_call 29; refine (isSize_any _ _).mono ?_; rw [HZ.out]; rintro e w' ⟨rfl, rfl⟩))
  go_loopg [10] (N + 1) (fun g s4 wr => ∃ (k : Nat) (u : Value), k ≤ N ∧ g + k = N + 1 ∧ s4 = .int .i64 k ∧ Hid (Tb w.heap.size wr (w.heap.size + 1) u (.slice none 0 0) (emptyS k) []) ∧ Hid (Blc wr w.heap.size 25 #[.slice none 0 0, .slice none 0 0]) ∧ Hid (Below w.heap.size w wr))
  case atStart => exact ⟨0, .slice none 0 0, Nat.zero_le _, rfl, rfl, Lib.hid ⟨Blc.newAt _ _ _ (by simp), OwnS.nil _ _, OwnP.nil _ _⟩, Lib.hid ((Blc.new _ _ _).alloc _), Lib.hid (by (repeat (first | exact Below.refl _ _ | assumption | refine nw_more ?_ _ _ | refine nw_alloc ?_ _ | refine nw_drew ?_ | refine nw_drewN ?_ _ | refine nw_set ?_ (by first | (simp; done) | (simp; omega) | omega) _)))⟩
  case round =>
    obtain ⟨k, u, hk, hg, rfl, HT, HR, HB⟩ := hrel
    obtain rfl : gk = N + 1 - k := by omega
    clear hg
    obtain ⟨q0, c0, rfl⟩ := HT.out.o.form
    obtain ⟨x0, -, -, -, xl⟩ := HT.out.cells
    have HLEN := Lib.hid (emptyS_length k)
    by_cases hlt : k < N
    · have hkn : (k : Int) < (N : Int) := by omega
      have hzz : w.heap.size ≤ wr.heap.size := HB.out.size
      have hmk := make_zeros
      have hcv := conv_made
      have hcv2 := conv_drew
      go_wp2_with fail
      go_region_law (first | (refine step_append_own rfl (.tmp 13) (.tmp 16) _ rfl w.heap.size 9 i0 (.string { data := #[] }) 1 16 Try.underlying22 HI.out hz0 hz1 hz2 rfl (by decide) _ (emptyS k).length ((emptyS k).map Value.string) rfl (own_below HT.out.o (by (repeat (first | exact Below.refl _ _ | assumption | refine nw_more ?_ _ _ | refine nw_alloc ?_ _ | refine nw_drew ?_ | refine nw_drewN ?_ _ | refine nw_set ?_ (by first | (simp; done) | (simp; omega) | omega) _)))) ⟨_, 0, none⟩ 1 1 [.string (zeroT 32)] rfl rfl (news1 (by simp [go_sem])) (news1_one rfl) (by have := HLEN.out; unfold maxLen; omega) (by have := HLEN.out; omega) (by first | (simp; done) | (simp; omega) | omega) ?_; intro v1 w1 hown1 hgrow1; obtain ⟨q1, qc1, rfl⟩ := slice_own hown1 (Nat.succ_pos _); obtain ⟨⟨y0, yf, yl⟩, HG1⟩ := HT.out.growS (Nat.le_succ _) (by (repeat (first | exact Below.refl _ _ | assumption | refine nw_more ?_ _ _ | refine nw_alloc ?_ _ | refine nw_drew ?_ | refine nw_drewN ?_ _ | refine nw_set ?_ (by first | (simp; done) | (simp; omega) | omega) _))) hown1 hgrow1; clear hown1 hgrow1))
      all_goals
        go_wp2
        go_roundg (N + 1 - k - 1)
        case measure => omega
        case rel =>
          obtain ⟨h1, h2⟩ := HG1.out
          rw [← emptyS_succ] at h1
          exact ⟨k + 1, _, by omega, by omega, by go_num, Lib.hid h1, Lib.hid (HR.out.kt h2 (by omega) (by decide) (by decide)), Lib.hid (HB.out.trans (h2.below hzz))⟩
    · have e : k = N := by omega
      have hkn : ¬ (k : Int) < (N : Int) := by omega
      obtain ⟨-, x1, -, -, -⟩ := HT.out.cells
      have r0 := HR.out.cell 0
      have r1 := HR.out.cell 1
      have f0 := HR.out.free 0
      have f1 := HR.out.free 1
      have rl : Lt w.heap.size wr.heap.size := HR.out.lt
      simp only [List.getElem?_toArray, List.getElem?_cons_succ, List.getElem?_cons_zero] at r0 r1
      have hfin : OwnS w.heap.size ((wr.setCell ⟨w.heap.size, 0, none⟩ (.slice q0 (emptyS k).length c0)).setCell ⟨w.heap.size, 1, none⟩ (.slice none 0 0)) (.slice q0 (emptyS k).length c0) (emptyS N) := by
        have hn2 := not_own HT.out.o HR.out (by decide)
        rw [← e]
        exact ownsRow_setCell_other (a := ⟨w.heap.size, 1, none⟩) (ownsRow_setCell_other (a := ⟨w.heap.size, 0, none⟩) HT.out.o hn2 _) hn2 _
      have HFIN := Lib.hid hfin
      have hbel := HB.out
      obtain ⟨t0, t1, t2⟩ := HR.out.two (.slice q0 (emptyS k).length c0) (.slice none 0 0)
      clear hfin e HR HB HT
      go_wp2
      refine bodyPost_ret (v := .tuple #[.agg #[.slice q0 (emptyS k).length c0, .slice none 0 0], .int .i64 0]) (by simp [results, Try.results28, go_sem, t0, t1, t2]) rfl ⟨_, rfl, HFIN.out, ?_⟩
      (repeat (first | exact Below.refl _ _ | assumption | refine nw_more ?_ _ _ | refine nw_alloc ?_ _ | refine nw_drew ?_ | refine nw_drewN ?_ _ | refine nw_set ?_ (by first | (simp; done) | (simp; omega) | omega) _))
end Go.Proofs.Ytgaalahlkllkaaa
