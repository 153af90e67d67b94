/- Contracts of package page: copies, records, what is opened and trimmed. -/
import Derived.Test.YtcbablighgooeaaPageA
import Derived.Test.YtcbablighgooeaaPLib
import Derived.Deep.RegionWith
import Derived.RegionTactic
import Derived.Deep.RegionHeld3
namespace Go.Proofs.Ytcbablighgooeaa
open Go.RowKit

set_option maxHeartbeats 1000000 in
theorem copied_any (B : Nat) (w : World) (v u : Value) (S : List ByteArray) (F : List Int) (h : PageIn B w v u S F) :
    Calls Try.prog 17 #[.agg #[v, u]] w fun e w' => ∃ u1 u2, e = .returned (.agg #[u1, u2]) ∧ OwnS w.heap.size w' u1 S ∧ OwnI w.heap.size w' u2 F ∧ Below w.heap.size w w' := by
  have HS := Lib.hid h.1
  have HF := Lib.hid h.2.toAt
  clear h
  go_enter Try.func17, Try.ntmps17
  go_wp2
  go_region_held3 (fun w9 => w9.cell? ⟨w.heap.size, 0, none⟩ = some v ∧ w9.cell? ⟨w.heap.size, 1, none⟩ = some u) (simp [go_sem, *]) (first | (go_at_call 27; refine (cloneS_any B _ _ S (HS.out.below (by (repeat (first | exact Below.refl _ _ | assumption | refine nw_more ?_ _ _ | refine nw_alloc ?_ _ | refine nw_drew ?_ | refine nw_drewN ?_ _ | refine nw_set ?_ (by first | (simp; done) | (simp; omega) | omega) _))))).mono ?_; rintro e w' ⟨u1, rfl, ho1, hb1⟩; obtain ⟨q1, c1, rfl⟩ := OwnS.form ho1; have HO1 := Lib.hid ho1; obtain ⟨n1, es1, rfl⟩ := below_more hb1; clear hb1 ho1) | (go_at_call 28; refine (clone_any _ _ F (HF.out.below (by (repeat (first | exact Below.refl _ _ | assumption | refine nw_more ?_ _ _ | refine nw_alloc ?_ _ | refine nw_drew ?_ | refine nw_drewN ?_ _ | refine nw_set ?_ (by first | (simp; done) | (simp; omega) | omega) _))))).mono ?_; rintro e w' ⟨u2, rfl, ho2, hb2⟩; obtain ⟨q2, c2, rfl⟩ := OwnI.slice ho2; have HO2 := Lib.hid ho2; obtain ⟨n2, es2, rfl⟩ := below_more hb2; clear hb2 ho2))
  all_goals
    go_wp2
    refine bodyPost_ret (v := .agg #[.slice q1 S.length c1, .slice q2 F.length c2]) (by simp [results, Try.results17, go_sem]) rfl ⟨_, _, rfl, ?_, ?_, ?_⟩
    · (first | (refine own_swap HO1.out ?_ ?_) | (refine own_more ?_ _ _; refine own_swap HO1.out ?_ ?_) | (refine own_more ?_ _ _; refine own_more ?_ _ _; refine own_swap HO1.out ?_ ?_)) <;> simp [go_sem] <;> omega
    · (first | (refine own_swap HO2.out ?_ ?_) | (refine own_more ?_ _ _; refine own_swap HO2.out ?_ ?_) | (refine own_more ?_ _ _; refine own_more ?_ _ _; refine own_swap HO2.out ?_ ?_)) <;> simp [go_sem] <;> omega
    · (repeat (first | exact Below.refl _ _ | assumption | refine nw_more ?_ _ _ | refine nw_alloc ?_ _ | refine nw_drew ?_ | refine nw_drewN ?_ _ | refine nw_set ?_ (by first | (simp; done) | (simp; omega) | omega) _))

theorem isRecord_any (B : Nat) (w : World) (v u : Value) (S : List ByteArray) (F : List Int) (n : Int) (h : PageIn B w v u S F) :
    Calls Try.prog 16 #[.agg #[v, u], .int .i64 n] w fun e w' => e = .returned (.bool (recB S F n)) ∧ Below w.heap.size w w' := by
  have HF := Lib.hid h.2.toAt
  obtain ⟨p, cap, rfl, -⟩ := h.1.slice
  obtain ⟨q, qcap, rfl, -⟩ := h.2.slice
  clear h
  by_cases h0 : 0 ≤ n
  · by_cases h1 : n < S.length
    · have HR := Lib.hid (rec_in (F := F) h0 h1)
      go_enter Try.func16, Try.ntmps16
      go_wp2_with (first | (go_at_call 26; refine (contains_any _ _ F _ (HF.out.below (by (repeat (first | exact Below.refl _ _ | assumption | refine nw_more ?_ _ _ | refine nw_alloc ?_ _ | refine nw_drew ?_ | refine nw_drewN ?_ _ | refine nw_set ?_ (by first | (simp; done) | (simp; omega) | omega) _))))).mono ?_; rintro e w' ⟨rfl, rfl⟩))
      go_ret
      exact ⟨ret_bool HR.out.symm, by (repeat (first | exact Below.refl _ _ | assumption | refine nw_more ?_ _ _ | refine nw_alloc ?_ _ | refine nw_drew ?_ | refine nw_drewN ?_ _ | refine nw_set ?_ (by first | (simp; done) | (simp; omega) | omega) _))⟩
    · have HR := Lib.hid (rec_high (S := S) (F := F) (n := n) (by omega))
      go_enter Try.func16, Try.ntmps16
      go_wp2
      go_ret
      exact ⟨ret_bool HR.out.symm, by (repeat (first | exact Below.refl _ _ | assumption | refine nw_more ?_ _ _ | refine nw_alloc ?_ _ | refine nw_drew ?_ | refine nw_drewN ?_ _ | refine nw_set ?_ (by first | (simp; done) | (simp; omega) | omega) _))⟩
  · have HR := Lib.hid (rec_low (S := S) (F := F) (n := n) (by omega))
    go_enter Try.func16, Try.ntmps16
    go_wp2
    go_ret
    exact ⟨ret_bool HR.out.symm, by (repeat (first | exact Below.refl _ _ | assumption | refine nw_more ?_ _ _ | refine nw_alloc ?_ _ | refine nw_drew ?_ | refine nw_drewN ?_ _ | refine nw_set ?_ (by first | (simp; done) | (simp; omega) | omega) _))⟩

theorem trim_none {F : List Int} {s : Nat} : Done F s 0 := fun h => absurd h (Nat.lt_irrefl 0)
set_option maxHeartbeats 1000000 in
theorem trimmed_any (w : World) (b off c b2 off2 c2 : Nat) (S : List ByteArray) (F : List Int) (B : Nat) (h : PageIn B w (.slice (some ⟨b, off, none⟩) S.length c) (.slice (some ⟨b2, off2, none⟩) F.length c2) S F) (hF : ∀ x ∈ F, 0 ≤ x) :
    Calls Try.prog 19 #[.agg #[.slice (some ⟨b, off, none⟩) S.length c, .slice (some ⟨b2, off2, none⟩) F.length c2]] w fun e w' => ∃ s f, e = .returned (.agg #[.slice (some ⟨b, off, none⟩) s c, .slice (some ⟨b2, off2, none⟩) f c2]) ∧ Trim S F s f ∧ Done F s f ∧ Below w.heap.size w w' := by
  obtain ⟨p, cap, e1, hSc⟩ := h.1.slice
  obtain ⟨q, qcap, e2, hl, ht⟩ := h.2.toAt.at
  have hSl := h.1.1
  obtain ⟨-, hFc⟩ : True ∧ F.length ≤ c2 := ⟨trivial, by obtain ⟨-, p', cap', e', hc, -⟩ := h.2; simp only [Value.slice.injEq] at e'; omega⟩
  have hSc : S.length ≤ c := by simp only [Value.slice.injEq] at e1; omega
  have HF := Lib.hid hF
  have H : Hid (∀ k, k < F.length → Lt b2 w.heap.size ∧ w.cell? ⟨b2, off2 + k, none⟩ = some (.int .i64 (F.getD k 0)) ∧ 0 ≤ F.getD k 0) := Lib.hid (fun k hk => by
    obtain ⟨b', off', x, e', hb, hc, -, hx⟩ := ht k hk
    simp only [Value.slice.injEq] at e2
    rw [← e2.1] at e'
    simp only [Option.some.injEq, Addr.mk.injEq] at e'
    obtain ⟨rfl, rfl, -⟩ := e'
    have : F.getD k 0 = x := by simp [List.getD, hx]
    rw [this]
    exact ⟨hb, hc, hF x (List.mem_of_getElem? hx)⟩)
  clear h e1 e2 ht hF
  go_enter Try.func19, Try.ntmps19
  go_wp2
  (refine wp_region_quiet_more (by kernel_rfl) (by kernel_rfl) ?_; (repeat (first | go_big_quiet_skip | quiet_step ((first | fail)))); refine wpQuiet_nil ?_; intro _ hw'; obtain ⟨⟨nq, esq⟩, hw''⟩ := hw'; subst hw''; dsimp only)
  go_wp2_with fail
  go_loop [3, 4] (fun s f => ∃ (i j : Nat), Hid (Trim S F i j) ∧ s = .int .i64 i ∧ f = .int .i64 j) (fun _ f => (intOf f).toNat)
  case atStart => exact ⟨S.length, F.length, trim_start S F, rfl, rfl⟩
  case round =>
    obtain ⟨i, j, HT, rfl, rfl⟩ := hrel
    obtain ⟨hi, hj, -⟩ := HT.out
    by_cases h0 : 0 < j
    · obtain ⟨hb, hc, hx⟩ := H.out (j - 1) (by omega)
      have k1 : (0 : Int) < (j : Int) := by omega
      by_cases he : F.getD (j - 1) 0 = (i : Int) - 1
      · obtain ⟨hi0, hs⟩ := trim_step HT.out h0 he hx
        have HS := Lib.hid hs
        rw [he] at hc
        clear he hx hs
        go_wp2
        go_round
        case rel => exact ⟨i - 1, j - 1, HS, by go_num, by go_num⟩
        case measure => simp [intOf]; omega
      · have HD : Hid (Done F i j) := Lib.hid (fun _ => he)
        generalize F.getD (j - 1) 0 = x at *
        have k2 : i ≤ c := by omega
        have k3 : j ≤ c2 := by omega
        go_wp2
        go_region
        all_goals
          go_wp2
          exact bodyPost_ret (v := .agg #[.slice (some ⟨b, off, none⟩) i c, .slice (some ⟨b2, off2, none⟩) j c2]) (by simp [results, Try.results19, go_sem]) rfl ⟨i, j, rfl, HT.out, HD.out, by (repeat (first | exact Below.refl _ _ | assumption | refine nw_more ?_ _ _ | refine nw_alloc ?_ _ | refine nw_drew ?_ | refine nw_drewN ?_ _ | refine nw_set ?_ (by first | (simp; done) | (simp; omega) | omega) _))⟩
    · obtain rfl : j = 0 := by omega
      have k2 : i ≤ c := by omega
      go_wp2
      go_region
      all_goals
        go_wp2
        exact bodyPost_ret (v := .agg #[.slice (some ⟨b, off, none⟩) i c, .slice (some ⟨b2, off2, none⟩) 0 c2]) (by simp [results, Try.results19, go_sem]) rfl ⟨i, 0, rfl, HT.out, trim_none, by (repeat (first | exact Below.refl _ _ | assumption | refine nw_more ?_ _ _ | refine nw_alloc ?_ _ | refine nw_drew ?_ | refine nw_drewN ?_ _ | refine nw_set ?_ (by first | (simp; done) | (simp; omega) | omega) _))⟩
end Go.Proofs.Ytcbablighgooeaa
