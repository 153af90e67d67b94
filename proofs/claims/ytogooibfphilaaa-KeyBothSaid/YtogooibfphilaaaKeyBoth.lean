/- KeyBoth returns true. -/
import Derived.Test.YtogooibfphilaaaKeyPlain
import Derived.RegionTactic
import Derived.BigRegion
import Derived.Deep.DeepCutAuto
import Derived.Deep.RegionWith
import Derived.Deep.LoopGhost
import Derived.Deep.RegionHeld3
import Derived.IntWalk
namespace Go.Proofs.Ytogooibfphilaaa
open Go.RowKit

set_option maxRecDepth 100000 in
set_option maxHeartbeats 8000000 in
theorem keyBoth_any (w : World) (sv rv : Value) (L M : Nat) (S : Nat → ByteArray) (R : Nat → Rg) (hs : StrsAt w sv L S) (hr : RgsAt w rv M R) :
    Calls Try.prog 4 #[.agg #[sv, rv]] w fun e w' => e = .returned (.bool true) ∧ Below w.heap.size w w' := by
  have HS := Lib.hid hs
  have HR := Lib.hid hr
  obtain ⟨p, cap, rfl, h3, h4⟩ := hr
  obtain ⟨sp, scap, rfl, hs3, -⟩ := hs
  unfold maxLen at h3 hs3
  have H4 := Lib.hid h4
  clear h4
  go_enter Try.func4, Try.ntmps4
  go_wp2_with fail
  (refine (heavy_any _ _ _ L M S R (HS.out.below (by (repeat (first | exact Below.refl _ _ | assumption | refine nw_more ?_ _ _ | refine nw_alloc ?_ _ | refine nw_drew ?_ | refine nw_drewN ?_ _ | refine nw_set ?_ (by first | (simp; done) | (simp; omega) | omega) _)))) (HR.out.below (by (repeat (first | exact Below.refl _ _ | assumption | refine nw_more ?_ _ _ | refine nw_alloc ?_ _ | refine nw_drew ?_ | refine nw_drewN ?_ _ | refine nw_set ?_ (by first | (simp; done) | (simp; omega) | omega) _))))).mono ?_; rintro e w' ⟨b, rfl, hb⟩; obtain ⟨n, es, rfl⟩ := below_more hb; clear hb)
  clear HR
  cases b
  rotate_left
  · go_wp2
    go_ret
    exact ⟨rfl, by (repeat (first | exact Below.refl _ _ | assumption | refine nw_more ?_ _ _ | refine nw_alloc ?_ _ | refine nw_drew ?_ | refine nw_drewN ?_ _ | refine nw_set ?_ (by first | (simp; done) | (simp; omega) | omega) _))⟩
  · go_wp2_with fail
    go_loopg [3] (M - 1) (fun g i wr => ∃ (k n : Nat) (es : Array Obj), i = .int .i64 k ∧ wr = more (w.alloc (Obj.cells #[.slice sp L scap, .slice p M cap] 25)) n es ∧ g + k = M - 1)
    case atStart => exact ⟨0, _, _, rfl, rfl, rfl⟩
    case round =>
      obtain ⟨i, n, es, rfl, rfl, hk⟩ := hrel
      obtain rfl : gk = M - 1 - i := by omega
      have hi1 : i + 1 ≤ 9223372036854775807 := by omega
      clear hk
      by_cases hlt : i + 1 < M
      · by_cases h6 : i < 6
        · have h6i : decide ((i : Int) < 6) = true := by simp; omega
          obtain ⟨b, off, rfl, hb, ca0, ca1, ca2, sa0, sa1⟩ := H4.out i (by omega)
          obtain ⟨b', off', e', hb', cb0, cb1, cb2, sb0, sb1⟩ := H4.out (i + 1) hlt
          obtain ⟨rfl, rfl⟩ : b = b' ∧ off = off' := by simpa using e'
          clear e' hb'
          have hL : Lt b w.heap.size := hb
          clear hb
          generalize R i = ra at *
          generalize R (i + 1) = rb at *
          obtain ⟨alo, ahi, atop⟩ := ra
          obtain ⟨blo, bhi, btop⟩ := rb
          dsimp only at ca0 ca1 ca2 sa0 sa1 cb0 cb1 cb2 sb0 sb1
          go_upto_region 6 with (fail)
          go_cut [4, 5] (fun pa pb wx => ∃ ba bb, pa = .pointer (some ⟨ba, 0, none⟩) ∧ pb = .pointer (some ⟨bb, 0, none⟩) ∧ Below (w.alloc (Obj.cells #[.slice sp L scap, .slice (some ⟨b, off, none⟩) M cap] 25)).heap.size (w.alloc (Obj.cells #[.slice sp L scap, .slice (some ⟨b, off, none⟩) M cap] 25)) wx ∧ Lt ba wx.heap.size ∧ Lt bb wx.heap.size ∧ RgAt wx ba ⟨alo, ahi, atop⟩ ∧ RgAt wx bb ⟨blo, bhi, btop⟩)
          case first =>
            as_aux_lemma =>
              have e1 : IntKind.i64.wrap ((i : Int) + 1) = (i : Int) + 1 := IntWalk.i64_in _ (by omega)
              have e2 : 0 ≤ (i : Int) + 1 := by omega
              have e3 : ((i : Int) + 1).toNat = i + 1 := by omega
              have e4 : (i : Int) + 1 < M := by omega
              go_region
              all_goals
                go_wp2_with fail
                go_meet
                exact ⟨_, _, rfl, rfl, by (repeat (first | exact Below.refl _ _ | assumption | refine nw_more ?_ _ _ | refine nw_alloc ?_ _ | refine nw_drew ?_ | refine nw_drewN ?_ _ | refine nw_set ?_ (by first | (simp; done) | (simp; omega) | omega) _)), by simp [go_sem], by simp [go_sem], by simp [RgAt, go_sem], by simp [RgAt, go_sem]⟩
          case rest =>
            obtain ⟨ba, bb, rfl, rfl, hbel, la, lb, ⟨a0, a1, a2⟩, ⟨b0, b1, b2⟩⟩ := hcut
            have HB := Lib.hid hbel
            clear hbel ca0 ca1 ca2 cb0 cb1 cb2
            dsimp only at a0 a1 a2 b0 b1 b2
            cases hA : rangeB alo ahi atop
            · go_wp2_with (first | (go_at_call 7; refine (over_any _ _ _ _ _ _ _ (by assumption) (by assumption) (by assumption) (by assumption)).mono ?_; (rintro e w' ⟨rfl, hb⟩; obtain ⟨n, es, rfl⟩ := below_more hb; clear hb)) | (go_at_call 8; refine (in_any _ _ _ _ _ _ _ (by assumption) (by assumption) (by assumption) (by assumption)).mono ?_; (rintro e w' ⟨rfl, hb⟩; obtain ⟨n, es, rfl⟩ := below_more hb; clear hb)) | (go_at_call 9; refine (both_any _ _ _ _ _ _ _ (by assumption) (by assumption) (by assumption) (by assumption)).mono ?_; (rintro e w' ⟨rfl, hb⟩; obtain ⟨n, es, rfl⟩ := below_more hb; clear hb)) | (go_at_call 14; refine (num_any _ _).mono ?_; rintro e w' ⟨rfl, rfl⟩))
              (go_roundg (M - 1 - i - 1); (case measure => omega); (case rel => exact mk_round (k := i + 1) (by go_num) (by have hbel := HB.out; (repeat (first | exact Below.refl _ _ | assumption | refine nw_more ?_ _ _ | refine nw_alloc ?_ _ | refine nw_drew ?_ | refine nw_drewN ?_ _ | refine nw_set ?_ (by first | (simp; done) | (simp; omega) | omega) _))) (by omega)))
            · cases hB : rangeB blo bhi btop
              · go_wp2_with (first | (go_at_call 7; refine (over_any _ _ _ _ _ _ _ (by assumption) (by assumption) (by assumption) (by assumption)).mono ?_; (rintro e w' ⟨rfl, hb⟩; obtain ⟨n, es, rfl⟩ := below_more hb; clear hb)) | (go_at_call 8; refine (in_any _ _ _ _ _ _ _ (by assumption) (by assumption) (by assumption) (by assumption)).mono ?_; (rintro e w' ⟨rfl, hb⟩; obtain ⟨n, es, rfl⟩ := below_more hb; clear hb)) | (go_at_call 9; refine (both_any _ _ _ _ _ _ _ (by assumption) (by assumption) (by assumption) (by assumption)).mono ?_; (rintro e w' ⟨rfl, hb⟩; obtain ⟨n, es, rfl⟩ := below_more hb; clear hb)) | (go_at_call 14; refine (num_any _ _).mono ?_; rintro e w' ⟨rfl, rfl⟩))
                (go_roundg (M - 1 - i - 1); (case measure => omega); (case rel => exact mk_round (k := i + 1) (by go_num) (by have hbel := HB.out; (repeat (first | exact Below.refl _ _ | assumption | refine nw_more ?_ _ _ | refine nw_alloc ?_ _ | refine nw_drew ?_ | refine nw_drewN ?_ _ | refine nw_set ?_ (by first | (simp; done) | (simp; omega) | omega) _))) (by omega)))
              · have hC := both_range alo ahi blo bhi atop btop hA hB
                have HH : ∀ s, Hid (hasB (maxB alo blo) (bothHi alo ahi blo bhi atop btop) (meetTop ahi bhi atop btop) s = (hasB alo ahi atop s && hasB blo bhi btop s)) := fun s => both_has alo ahi blo bhi atop btop s hA hB
                have hzc := range_bound hC
                go_upto_region 7 with (fail)
                go_cut [6, 7] (fun p6 e7 wx => ∃ bc, p6 = .pointer (some ⟨bc, 0, none⟩) ∧ e7 = .int .i64 0 ∧ Below (w.alloc (Obj.cells #[.slice sp L scap, .slice (some ⟨b, off, none⟩) M cap] 25)).heap.size (w.alloc (Obj.cells #[.slice sp L scap, .slice (some ⟨b, off, none⟩) M cap] 25)) wx ∧ Lt ba wx.heap.size ∧ Lt bb wx.heap.size ∧ Lt bc wx.heap.size ∧ RgAt wx ba ⟨alo, ahi, atop⟩ ∧ RgAt wx bb ⟨blo, bhi, btop⟩ ∧ RgAt wx bc ⟨maxB alo blo, bothHi alo ahi blo bhi atop btop, meetTop ahi bhi atop btop⟩)
                case first =>
                  as_aux_lemma =>
                    go_wp2_with (first | (go_at_call 9; refine (both_any _ _ _ _ _ _ _ (by assumption) (by assumption) (by assumption) (by assumption)).mono ?_; (rintro e w' ⟨rfl, hb⟩; obtain ⟨n, es, rfl⟩ := below_more hb; clear hb)))
                    go_meet
                    have hbel := HB.out
                    exact ⟨_, rfl, rfl, by (repeat (first | exact Below.refl _ _ | assumption | refine nw_more ?_ _ _ | refine nw_alloc ?_ _ | refine nw_drew ?_ | refine nw_drewN ?_ _ | refine nw_set ?_ (by first | (simp; done) | (simp; omega) | omega) _)), by simp [go_sem, la], by simp [go_sem, lb], by simp [go_sem], by simp [RgAt, go_sem, la, a0, a1, a2], by simp [RgAt, go_sem, lb, b0, b1, b2], by simp [RgAt, go_sem]⟩
                case rest =>
                  clear HB la lb a0 a1 a2 b0 b1 b2
                  obtain ⟨bc, rfl, rfl, hbel, la, lb, lc, ⟨a0, a1, a2⟩, ⟨b0, b1, b2⟩, ⟨c0, c1, c2⟩⟩ := hcut
                  dsimp only at a0 a1 a2 b0 b1 b2 c0 c1 c2
                  have HB := Lib.hid hbel
                  clear hbel
                  generalize maxB alo blo = clo at *
                  generalize bothHi alo ahi blo bhi atop btop = chi at *
                  generalize meetTop ahi bhi atop btop = ctop at *
                  have sc0 : clo.size ≤ maxLen := by unfold maxLen; omega
                  have sc1 : chi.size ≤ maxLen := by unfold maxLen; omega
                  clear hzc
                  go_wp2_with (first | (go_at_call 7; refine (over_any _ _ _ _ _ _ _ (by assumption) (by assumption) (by assumption) (by assumption)).mono ?_; (rintro e w' ⟨rfl, hb⟩; obtain ⟨n, es, rfl⟩ := below_more hb; clear hb)) | (go_at_call 8; refine (in_any _ _ _ _ _ _ _ (by assumption) (by assumption) (by assumption) (by assumption)).mono ?_; (rintro e w' ⟨rfl, hb⟩; obtain ⟨n, es, rfl⟩ := below_more hb; clear hb)) | (go_at_call 14; refine (num_any _ _).mono ?_; rintro e w' ⟨rfl, rfl⟩))
                  have HW : Below w.heap.size w wc := nw_trans (nw_alloc (Below.refl _ _) _) HB.out
                  have hbox : wc.cell? ⟨w.heap.size, 0, none⟩ = some (.slice sp L scap) := by rw [HB.out.cell (p := ⟨w.heap.size, 0, none⟩) (by simp)]; simp [go_sem]
                  have lbox : Lt w.heap.size wc.heap.size := by have := HB.out.size; simp at this; unfold Lt; omega
                  have HSW := Lib.hid (HS.out.below HW)
                  clear HW H4
                  go_loopg [12] L (fun g j wr => ∃ (k n : Nat) (es : Array Obj), j = .int .i64 k ∧ wr = more wc n es ∧ g + k = L)
                  case atStart => exact mk_round (k := 0) rfl (by (repeat (first | exact Below.refl _ _ | assumption | refine nw_more ?_ _ _ | refine nw_alloc ?_ _ | refine nw_drew ?_ | refine nw_drewN ?_ _ | refine nw_set ?_ (by first | (simp; done) | (simp; omega) | omega) _))) rfl
                  case round =>
                    obtain ⟨k, n, es, rfl, rfl, hk⟩ := hrel
                    obtain rfl : gk = L - k := by omega
                    clear hk
                    by_cases hlt2 : k < L
                    · by_cases h12 : k < 12
                      · have h12i : decide ((k : Int) < 12) = true := by simp; omega
                        obtain ⟨p', cap', e', _, h4'⟩ := HSW.out
                        obtain ⟨sb, soff, e'', hb', hcs, hz⟩ := h4' k hlt2
                        subst e''
                        simp only [Value.slice.injEq, true_and] at e'
                        obtain ⟨rfl, rfl⟩ := e'
                        have lsb : Lt sb wc.heap.size := hb'
                        clear hb' h4' hL
                        have HHs := HH (S k)
                        have HI := fun h k' => in_has alo ahi blo bhi atop btop (S k) h k'
                        have HO := fun h k' => has_over alo ahi blo bhi atop btop (S k) h k'
                        have HI := Lib.hid HI
                        have HO := Lib.hid HO
                        generalize S k = s at *
                        cases hK : keyB s
                        · as_aux_lemma =>
                          go_upto_region 14 with (fail)
                          go_cut [13, 14] (fun s1 s2 wx => s1 = .bool (false) ∧ s2 = .int .i64 1 ∧ ∃ n es, wx = more wc n es)
                          case first =>
                            as_aux_lemma =>
                              go_region_held3 (fun w' => w'.cell? ⟨w.heap.size, 0, none⟩ = some (.slice (some ⟨sb, soff, none⟩) L scap) ∧ w'.cell? ⟨sb, soff + k, none⟩ = some (.string s) ∧ w'.cell? ⟨ba, 0, none⟩ = some (.string (alo)) ∧ w'.cell? ⟨ba, 1, none⟩ = some (.string (ahi)) ∧ w'.cell? ⟨ba, 2, none⟩ = some (.bool (atop))) (simp [go_sem, *]) (first | (go_at_call 16; refine (has_any _ _ _ _ _ (by assumption) (by assumption) (by assumption)).mono ?_; (rintro e w' ⟨rfl, hb⟩; obtain ⟨n, es, rfl⟩ := below_more hb; clear hb)))
                              all_goals
                                go_wp2_with fail
                                go_meet
                                exact ⟨by simp, by simp, by simp only [more_drew, more_drewN, more_more]; exact ⟨_, _, rfl⟩⟩
                          case' rest => obtain ⟨rfl, rfl, n, es, rfl⟩ := hcut
                          go_upto_region 15 with (fail)
                          go_cut [15, 16] (fun s1 s2 wx => s1 = .bool (false) ∧ s2 = .int .i64 1 ∧ ∃ n es, wx = more wc n es)
                          case first =>
                            as_aux_lemma =>
                              go_region_held3 (fun w' => w'.cell? ⟨w.heap.size, 0, none⟩ = some (.slice (some ⟨sb, soff, none⟩) L scap) ∧ w'.cell? ⟨sb, soff + k, none⟩ = some (.string s) ∧ w'.cell? ⟨bb, 0, none⟩ = some (.string (blo)) ∧ w'.cell? ⟨bb, 1, none⟩ = some (.string (bhi)) ∧ w'.cell? ⟨bb, 2, none⟩ = some (.bool (btop))) (simp [go_sem, *]) (first | (go_at_call 16; refine (has_any _ _ _ _ _ (by assumption) (by assumption) (by assumption)).mono ?_; (rintro e w' ⟨rfl, hb⟩; obtain ⟨n, es, rfl⟩ := below_more hb; clear hb)))
                              all_goals
                                go_wp2_with fail
                                go_meet
                                exact ⟨by simp, by simp, by simp only [more_drew, more_drewN, more_more]; exact ⟨_, _, rfl⟩⟩
                          case' rest => obtain ⟨rfl, rfl, n, es, rfl⟩ := hcut
                          go_upto_region 16 with (fail)
                          go_cut [17, 18] (fun s1 s2 wx => s1 = .bool (false) ∧ s2 = .int .i64 1 ∧ ∃ n es, wx = more wc n es)
                          case first =>
                            as_aux_lemma =>
                              go_region_held3 (fun w' => w'.cell? ⟨w.heap.size, 0, none⟩ = some (.slice (some ⟨sb, soff, none⟩) L scap) ∧ w'.cell? ⟨sb, soff + k, none⟩ = some (.string s) ∧ w'.cell? ⟨bc, 0, none⟩ = some (.string (clo)) ∧ w'.cell? ⟨bc, 1, none⟩ = some (.string (chi)) ∧ w'.cell? ⟨bc, 2, none⟩ = some (.bool (ctop))) (simp [go_sem, *]) (first | (go_at_call 16; refine (has_any _ _ _ _ _ (by assumption) (by assumption) (by assumption)).mono ?_; (rintro e w' ⟨rfl, hb⟩; obtain ⟨n, es, rfl⟩ := below_more hb; clear hb)))
                              all_goals
                                go_wp2_with fail
                                go_meet
                                exact ⟨by simp, by simp, by simp only [more_drew, more_drewN, more_more]; exact ⟨_, _, rfl⟩⟩
                          case' rest => obtain ⟨rfl, rfl, n, es, rfl⟩ := hcut
                          go_wp2_with (first | (go_at_call 14; refine (num_any _ _).mono ?_; rintro e w' ⟨rfl, rfl⟩))
                          go_roundg (L - k - 1)
                          case measure => omega
                          case rel => exact mk_round (k := k + 1) (by go_num) (by (repeat (first | exact Below.refl _ _ | assumption | refine nw_more ?_ _ _ | refine nw_alloc ?_ _ | refine nw_drew ?_ | refine nw_drewN ?_ _ | refine nw_set ?_ (by first | (simp; done) | (simp; omega) | omega) _))) (by omega)
                        · as_aux_lemma =>
                          go_upto_region 14 with (fail)
                          go_cut [13, 14] (fun s1 s2 wx => s1 = .bool (hasB alo ahi atop s) ∧ s2 = .int .i64 0 ∧ ∃ n es, wx = more wc n es)
                          case first =>
                            as_aux_lemma =>
                              go_region_held3 (fun w' => w'.cell? ⟨w.heap.size, 0, none⟩ = some (.slice (some ⟨sb, soff, none⟩) L scap) ∧ w'.cell? ⟨sb, soff + k, none⟩ = some (.string s) ∧ w'.cell? ⟨ba, 0, none⟩ = some (.string (alo)) ∧ w'.cell? ⟨ba, 1, none⟩ = some (.string (ahi)) ∧ w'.cell? ⟨ba, 2, none⟩ = some (.bool (atop))) (simp [go_sem, *]) (first | (go_at_call 16; refine (has_any _ _ _ _ _ (by assumption) (by assumption) (by assumption)).mono ?_; (rintro e w' ⟨rfl, hb⟩; obtain ⟨n, es, rfl⟩ := below_more hb; clear hb)))
                              all_goals
                                go_wp2_with fail
                                go_meet
                                exact ⟨by simp, by simp, by simp only [more_drew, more_drewN, more_more]; exact ⟨_, _, rfl⟩⟩
                          case' rest => obtain ⟨rfl, rfl, n, es, rfl⟩ := hcut
                          go_upto_region 15 with (fail)
                          go_cut [15, 16] (fun s1 s2 wx => s1 = .bool (hasB blo bhi btop s) ∧ s2 = .int .i64 0 ∧ ∃ n es, wx = more wc n es)
                          case first =>
                            as_aux_lemma =>
                              go_region_held3 (fun w' => w'.cell? ⟨w.heap.size, 0, none⟩ = some (.slice (some ⟨sb, soff, none⟩) L scap) ∧ w'.cell? ⟨sb, soff + k, none⟩ = some (.string s) ∧ w'.cell? ⟨bb, 0, none⟩ = some (.string (blo)) ∧ w'.cell? ⟨bb, 1, none⟩ = some (.string (bhi)) ∧ w'.cell? ⟨bb, 2, none⟩ = some (.bool (btop))) (simp [go_sem, *]) (first | (go_at_call 16; refine (has_any _ _ _ _ _ (by assumption) (by assumption) (by assumption)).mono ?_; (rintro e w' ⟨rfl, hb⟩; obtain ⟨n, es, rfl⟩ := below_more hb; clear hb)))
                              all_goals
                                go_wp2_with fail
                                go_meet
                                exact ⟨by simp, by simp, by simp only [more_drew, more_drewN, more_more]; exact ⟨_, _, rfl⟩⟩
                          case' rest => obtain ⟨rfl, rfl, n, es, rfl⟩ := hcut
                          go_upto_region 16 with (fail)
                          go_cut [17, 18] (fun s1 s2 wx => s1 = .bool (hasB clo chi ctop s) ∧ s2 = .int .i64 0 ∧ ∃ n es, wx = more wc n es)
                          case first =>
                            as_aux_lemma =>
                              go_region_held3 (fun w' => w'.cell? ⟨w.heap.size, 0, none⟩ = some (.slice (some ⟨sb, soff, none⟩) L scap) ∧ w'.cell? ⟨sb, soff + k, none⟩ = some (.string s) ∧ w'.cell? ⟨bc, 0, none⟩ = some (.string (clo)) ∧ w'.cell? ⟨bc, 1, none⟩ = some (.string (chi)) ∧ w'.cell? ⟨bc, 2, none⟩ = some (.bool (ctop))) (simp [go_sem, *]) (first | (go_at_call 16; refine (has_any _ _ _ _ _ (by assumption) (by assumption) (by assumption)).mono ?_; (rintro e w' ⟨rfl, hb⟩; obtain ⟨n, es, rfl⟩ := below_more hb; clear hb)))
                              all_goals
                                go_wp2_with fail
                                go_meet
                                exact ⟨by simp, by simp, by simp only [more_drew, more_drewN, more_more]; exact ⟨_, _, rfl⟩⟩
                          case' rest => obtain ⟨rfl, rfl, n, es, rfl⟩ := hcut
                          go_upto_region 18 with (first | (go_at_call 14; refine (num_any _ _).mono ?_; rintro e w' ⟨rfl, rfl⟩))
                          go_cut [160] (fun r wx => r = .bool false ∧ ∃ n es, wx = more wc n es)
                          case first =>
                            as_aux_lemma =>
                              have hw := HHs.out
                              have hI := HI.out
                              have hO := HO.out
                              clear HHs HI HO HH
                              generalize hasB alo ahi atop s = x at *
                              generalize hasB blo bhi btop s = y at *
                              generalize hasB clo chi ctop s = z at *
                              generalize inB alo ahi blo bhi atop btop = vi at *
                              generalize overB alo ahi blo bhi atop btop = vo at *
                              subst hw
                              cases x <;> cases y <;> cases vi <;> cases vo <;> first | exact (Bool.false_ne_true (hI rfl rfl)).elim | exact (Bool.false_ne_true (hO rfl rfl)).elim | skip
                              all_goals
                                clear hI hO
                                go_wp2_with (first | (go_at_call 14; refine (num_any _ _).mono ?_; rintro e w' ⟨rfl, rfl⟩))
                                go_meet
                                exact ⟨rfl, _, _, rfl⟩
                          case rest =>
                            obtain ⟨rfl, n, es, rfl⟩ := hcut
                            have h1 := one_range hK
                            have h2 := one_over alo ahi atop s
                            have h3 := one_in alo ahi atop s
                            have hk2 : (keyNext s).size ≤ maxLen := by rw [next_size]; have := key_size hK; unfold maxLen; omega
                            generalize hnx : keyNext s = nx at *
                            have HNX := Lib.hid hnx
                            clear hnx
                            have H2 := Lib.hid h2
                            have H3 := Lib.hid h3
                            clear h2 h3 HHs HI HO HH
                            go_upto_region 23 with (first | (go_at_call 17; refine (one_any _ _ (by assumption)).mono ?_; rw [HNX.out]; (rintro e w' ⟨rfl, hb⟩; obtain ⟨n, es, rfl⟩ := below_more hb; clear hb)) | (go_at_call 8; refine (in_any _ _ _ _ _ _ _ (by assumption) (by assumption) (by assumption) (by assumption)).mono ?_; (rintro e w' ⟨rfl, hb⟩; obtain ⟨n, es, rfl⟩ := below_more hb; clear hb)) | (go_at_call 7; refine (over_any _ _ _ _ _ _ _ (by assumption) (by assumption) (by assumption) (by assumption)).mono ?_; (rintro e w' ⟨rfl, hb⟩; obtain ⟨n, es, rfl⟩ := below_more hb; clear hb)) | (go_at_call 14; refine (num_any _ _).mono ?_; rintro e w' ⟨rfl, rfl⟩))
                            have h2 := H2.out
                            have h3 := H3.out
                            clear H2 H3
                            rw [h2]
                            clear h2
                            generalize hasB alo ahi atop s = x at *
                            generalize inB s nx alo ahi false atop = u at *
                            cases x <;> cases u <;> first | exact (Bool.false_ne_true (h3 rfl)).elim | skip
                            all_goals
                              clear h3
                              go_wp2_with (first | (go_at_call 14; refine (num_any _ _).mono ?_; rintro e w' ⟨rfl, rfl⟩))
                              go_roundg (L - k - 1)
                              case measure => omega
                              case rel => exact mk_round (k := k + 1) (by go_num) (by (repeat (first | exact Below.refl _ _ | assumption | refine nw_more ?_ _ _ | refine nw_alloc ?_ _ | refine nw_drew ?_ | refine nw_drewN ?_ _ | refine nw_set ?_ (by first | (simp; done) | (simp; omega) | omega) _))) (by omega)
                      · have h12i : decide ((k : Int) < 12) = false := by simp; omega
                        go_wp2_with fail
                        (go_roundg (M - 1 - i - 1); (case measure => omega); (case rel => exact mk_round (k := i + 1) (by go_num) (by have hbel := HB.out; (repeat (first | exact Below.refl _ _ | assumption | refine nw_more ?_ _ _ | refine nw_alloc ?_ _ | refine nw_drew ?_ | refine nw_drewN ?_ _ | refine nw_set ?_ (by first | (simp; done) | (simp; omega) | omega) _))) (by omega)))
                    · go_wp2_with fail
                      (go_roundg (M - 1 - i - 1); (case measure => omega); (case rel => exact mk_round (k := i + 1) (by go_num) (by have hbel := HB.out; (repeat (first | exact Below.refl _ _ | assumption | refine nw_more ?_ _ _ | refine nw_alloc ?_ _ | refine nw_drew ?_ | refine nw_drewN ?_ _ | refine nw_set ?_ (by first | (simp; done) | (simp; omega) | omega) _))) (by omega)))
        · have h6i : decide ((i : Int) < 6) = false := by simp; omega
          go_wp2_with (first | (go_at_call 15; refine (wakes_any _).mono ?_; (rintro e w' ⟨rfl, hb⟩; obtain ⟨n, es, rfl⟩ := below_more hb; clear hb)))
          go_ret
          exact ⟨rfl, by (repeat (first | exact Below.refl _ _ | assumption | refine nw_more ?_ _ _ | refine nw_alloc ?_ _ | refine nw_drew ?_ | refine nw_drewN ?_ _ | refine nw_set ?_ (by first | (simp; done) | (simp; omega) | omega) _))⟩
      · go_wp2_with (first | (go_at_call 15; refine (wakes_any _).mono ?_; (rintro e w' ⟨rfl, hb⟩; obtain ⟨n, es, rfl⟩ := below_more hb; clear hb)))
        go_ret
        exact ⟨rfl, by (repeat (first | exact Below.refl _ _ | assumption | refine nw_more ?_ _ _ | refine nw_alloc ?_ _ | refine nw_drew ?_ | refine nw_drewN ?_ _ | refine nw_set ?_ (by first | (simp; done) | (simp; omega) | omega) _))⟩
end Go.Proofs.Ytogooibfphilaaa
