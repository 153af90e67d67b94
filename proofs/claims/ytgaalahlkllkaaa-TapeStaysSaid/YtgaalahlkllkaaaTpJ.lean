/- Contract: one step on a tape. No condition. -/
import Derived.Test.YtgaalahlkllkaaaTpI
namespace Go.Proofs.Ytgaalahlkllkaaa
open Go.RowKit

/-- What a step leaves. -/
def StepOut (B b : Nat) (w : World) (S : List ByteArray) (l : List Pt) (d : Dd) (e : Ending) (w' : World) : Prop := e = .returned (.int .i64 (stepE S l d)) ∧ (stepE S l d = 0 → ∃ u' v', Tb B w' b u' v' (stepS S l d) (stepL l d)) ∧ Kt B b w w'
set_option maxRecDepth 100000 in
set_option maxHeartbeats 8000000 in
theorem play_any (B b : Nat) (w : World) (u v : Value) (S : List ByteArray) (l : List Pt) (d : Dd) (hok : TpOk S l) (h : Tb B w b u v S l) (hB : B ≤ b) (hBw : B ≤ w.heap.size) (hd : d.p.s.size ≤ 140737488355328) :
    Calls Try.prog 20 #[.pointer (some ⟨b, 0, none⟩), .agg #[.bool d.g, .int .i64 d.p.i, .string d.p.s]] w (StepOut B b w S l d) := by
  obtain ⟨dg, di, ds⟩ := d
  dsimp only at hd ⊢
  cases dg
  case true =>
    have HT := Lib.hid h
    have HOK := Lib.hid hok
    clear h hok
    go_enter Try.func20, Try.ntmps20
    go_wp2_with fail
    refine (settle_any B b _ u v S l HOK.out (HT.out.below (by (repeat (first | exact Below.refl _ _ | assumption | refine nw_more ?_ _ _ | refine nw_alloc ?_ _ | refine nw_drew ?_ | refine nw_drewN ?_ _ | refine nw_set ?_ (by first | (simp; done) | (simp; omega) | omega) _)))) hB (by simp; omega)).mono ?_
    rintro e w' ⟨rfl, ⟨u', hu⟩, hk⟩
    have HU := Lib.hid hu
    have HK := Lib.hid ((Kt.of (B := B) (b := b) (by (repeat (first | exact Below.refl _ _ | assumption | refine nw_more ?_ _ _ | refine nw_alloc ?_ _ | refine nw_drew ?_ | refine nw_drewN ?_ _ | refine nw_set ?_ (by first | (simp; done) | (simp; omega) | omega) _)) : Below w.heap.size w (w.alloc (Obj.cells #[.bool true, .int .i64 di, .string ds] 42)))).trans hk)
    clear hu hk
    go_wp2
    go_ret
    exact ⟨rfl, fun _ => ⟨_, _, HU.out⟩, HK.out⟩
  case false =>
  have hSE : stepE S l ⟨false, di, ds⟩ = if faultE S.length di ds = 0 then (if 2048 ≤ l.length then 2 else 0) else faultE S.length di ds := rfl
  obtain ⟨p, c, rfl⟩ := h.o.form
  obtain ⟨q, m, rfl⟩ := h.p.slice
  obtain ⟨x0, x1, f0, f1, xl⟩ := h.cells
  have HT := Lib.hid h
  have hll := hok.many
  have hSl := hok.top
  obtain ⟨i0, hi, hz0, hz1, hz2⟩ := info_parts info_put
  have HI := Lib.hid hi
  clear h hi hok
  generalize hF : faultE S.length di ds = F at *
  have HF := Lib.hid hF
  clear hF
  by_cases hF0 : F = 0
  case neg =>
    rw [if_neg hF0] at hSE
    have HSE := Lib.hid hSE
    have hne : (F == 0) = false := beq_eq_false_iff_ne.2 hF0
    clear hSE
    go_enter Try.func20, Try.ntmps20
    go_wp2_with fail
    (refine wp_region_quiet_more (by kernel_rfl) (by kernel_rfl) ?_; (repeat (first | go_big_quiet_skip | quiet_step ((first | (go_at_call 35; exact Calls.more_same_intB F HF.out (fault_any _ _ _ _ _ _ _ _ _ hd)))))); refine wpQuiet_nil ?_; intro _ hw'; obtain ⟨⟨nq, esq⟩, hw''⟩ := hw'; subst hw''; dsimp only)
    go_wp2
    go_ret
    exact ⟨ret_int HSE.out.symm, fun e0 => absurd (HSE.out.symm.trans e0) hF0, Kt.of (by (repeat (first | exact Below.refl _ _ | assumption | refine nw_more ?_ _ _ | refine nw_alloc ?_ _ | refine nw_drew ?_ | refine nw_drewN ?_ _ | refine nw_set ?_ (by first | (simp; done) | (simp; omega) | omega) _)))⟩
  case pos =>
  rw [if_pos hF0] at hSE
  subst hF0
  by_cases hm : 2048 ≤ l.length
  · rw [if_pos hm] at hSE
    have HSE := Lib.hid hSE
    have k1 : (2048 : Int) ≤ (l.length : Int) := by omega
    clear hSE
    go_enter Try.func20, Try.ntmps20
    go_wp2_with fail
    (refine wp_region_quiet_more (by kernel_rfl) (by kernel_rfl) ?_; (repeat (first | go_big_quiet_skip | quiet_step ((first | (go_at_call 35; exact Calls.more_same_intB 0 HF.out (fault_any _ _ _ _ _ _ _ _ _ hd)))))); refine wpQuiet_nil ?_; intro _ hw'; obtain ⟨⟨nq, esq⟩, hw''⟩ := hw'; subst hw''; dsimp only)
    go_wp2_with fail
    (refine wp_region_quiet_more (by kernel_rfl) (by kernel_rfl) ?_; (repeat (first | go_big_quiet_skip | quiet_step ((first | (go_at_call 30; exact Calls.more_same_int 2048 rfl (mostWaits_any _)))))); refine wpQuiet_nil ?_; intro _ hw'; obtain ⟨⟨nq, esq⟩, hw''⟩ := hw'; subst hw''; dsimp only)
    go_wp2
    go_ret
    exact ⟨ret_int HSE.out.symm, fun e0 => absurd (HSE.out.symm.trans e0) (by decide), Kt.of (by (repeat (first | exact Below.refl _ _ | assumption | refine nw_more ?_ _ _ | refine nw_alloc ?_ _ | refine nw_drew ?_ | refine nw_drewN ?_ _ | refine nw_set ?_ (by first | (simp; done) | (simp; omega) | omega) _)))⟩
  · rw [if_neg hm] at hSE
    have HSE := Lib.hid hSE
    have k1 : ¬ (2048 : Int) ≤ (l.length : Int) := by omega
    clear hSE
    go_enter Try.func20, Try.ntmps20
    go_wp2_with fail
    (refine wp_region_quiet_more (by kernel_rfl) (by kernel_rfl) ?_; (repeat (first | go_big_quiet_skip | quiet_step ((first | (go_at_call 35; exact Calls.more_same_intB 0 HF.out (fault_any _ _ _ _ _ _ _ _ _ hd)))))); refine wpQuiet_nil ?_; intro _ hw'; obtain ⟨⟨nq, esq⟩, hw''⟩ := hw'; subst hw''; dsimp only)
    go_wp2_with fail
    (refine wp_region_quiet_more (by kernel_rfl) (by kernel_rfl) ?_; (repeat (first | go_big_quiet_skip | quiet_step ((first | (go_at_call 30; exact Calls.more_same_int 2048 rfl (mostWaits_any _)))))); refine wpQuiet_nil ?_; intro _ hw'; obtain ⟨⟨nq, esq⟩, hw''⟩ := hw'; subst hw''; dsimp only)
    go_wp2_with fail
    go_region_law (first | (refine step_append_own rfl (.tmp 30) (.tmp 34) _ rfl B 40 i0 (.agg #[.int .i64 0, .string { data := #[] }]) 2 24 Try.underlying23 HI.out hz0 hz1 hz2 rfl (by decide) _ l.length (ptCells l) rfl (own_below HT.out.p (by (repeat (first | exact Below.refl _ _ | assumption | refine nw_more ?_ _ _ | refine nw_alloc ?_ _ | refine nw_drew ?_ | refine nw_drewN ?_ _ | refine nw_set ?_ (by first | (simp; done) | (simp; omega) | omega) _)))) ⟨_, 0, none⟩ 1 1 [.int .i64 di, .string ds] rfl rfl (news2 (by simp [go_sem]) (by simp [go_sem])) (news2_one rfl rfl) (by unfold maxLen; omega) (by omega) (by first | (simp; done) | (simp; omega) | omega) ?_; intro v1 w1 hown1 hgrow1; obtain ⟨q2, qc2, rfl⟩ := slice_own hown1 (Nat.succ_pos _); obtain ⟨⟨y0, yf, yl⟩, HG1⟩ := HT.out.growP ⟨di, ds⟩ hB (by (repeat (first | exact Below.refl _ _ | assumption | refine nw_more ?_ _ _ | refine nw_alloc ?_ _ | refine nw_drew ?_ | refine nw_drewN ?_ _ | refine nw_set ?_ (by first | (simp; done) | (simp; omega) | omega) _))) hown1 hgrow1; clear hown1 hgrow1) | (rw [if_pos (by simp [Region.wanted])]; unfold Oper.wp execOp; simp [go_sem]; refine (copiedPut_any di ds _ hd).mono ?_; (rintro e w' ⟨rfl, hb⟩; obtain ⟨n, es, rfl⟩ := below_more hb; clear hb)))
    all_goals
      go_wp2
      go_ret
      exact ⟨ret_int HSE.out.symm, fun _ => ⟨_, _, HG1.out.1⟩, HG1.out.2⟩
end Go.Proofs.Ytgaalahlkllkaaa
