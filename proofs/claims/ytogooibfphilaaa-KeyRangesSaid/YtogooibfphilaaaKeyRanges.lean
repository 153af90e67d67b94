/- KeyRanges returns true. -/
import Derived.Test.YtogooibfphilaaaWakes
import Derived.RegionTactic
import Derived.BigRegion
import Derived.Deep.DeepCutAuto
import Derived.Deep.RegionWith
import Derived.Deep.LoopGhost
import Derived.Deep.RegionHeld3
namespace Go.Proofs.Ytogooibfphilaaa
open Go.RowKit

set_option maxRecDepth 100000 in
set_option maxHeartbeats 4000000 in
theorem keyRanges_any (w : World) (sv rv : Value) (L M : Nat) (S : Nat → ByteArray) (R : Nat → Rg) (hs : StrsAt w sv L S) (hr : RgsAt w rv M R) :
    Calls Try.prog 3 #[.agg #[sv, rv]] w fun e w' => e = .returned (.bool true) ∧ Below w.heap.size w w' := by
  have HS := Lib.hid hs
  have HR := Lib.hid hr
  obtain ⟨p, cap, rfl, h3, h4⟩ := hr
  unfold maxLen at h3
  have H4 := Lib.hid h4
  clear hs h4
  go_enter Try.func3, Try.ntmps3
  go_wp2_with fail
  refine (heavy_any _ _ _ L M S R (HS.out.below (by (repeat (first | exact Below.refl _ _ | assumption | refine nw_more ?_ _ _ | refine nw_alloc ?_ _ | refine nw_drew ?_ | refine nw_drewN ?_ _ | refine nw_set ?_ (by first | (simp; done) | (simp; omega) | omega) _)))) (HR.out.below (by (repeat (first | exact Below.refl _ _ | assumption | refine nw_more ?_ _ _ | refine nw_alloc ?_ _ | refine nw_drew ?_ | refine nw_drewN ?_ _ | refine nw_set ?_ (by first | (simp; done) | (simp; omega) | omega) _))))).mono ?_
  rintro e w' ⟨b, rfl, hb⟩
  obtain ⟨n, es, rfl⟩ := below_more hb
  clear hb HR
  cases b
  rotate_left
  · go_wp2
    go_ret
    exact ⟨rfl, by (repeat (first | exact Below.refl _ _ | assumption | refine nw_more ?_ _ _ | refine nw_alloc ?_ _ | refine nw_drew ?_ | refine nw_drewN ?_ _ | refine nw_set ?_ (by first | (simp; done) | (simp; omega) | omega) _))⟩
  · go_wp2_with fail
    go_loopg [3] M (fun g i wr => ∃ (k n : Nat) (es : Array Obj), i = .int .i64 k ∧ wr = more (w.alloc (Obj.cells #[sv, .slice p M cap] 25)) n es ∧ g + k = M)
    case atStart => exact ⟨0, _, _, rfl, rfl, rfl⟩
    case round =>
      obtain ⟨k, n, es, rfl, rfl, hk⟩ := hrel
      obtain rfl : gk = M - k := by omega
      clear hk
      by_cases hlt : k < M
      · by_cases h6 : k < 6
        · have h6i : decide ((k : Int) < 6) = true := by simp; omega
          go_wp2_with fail
          go_loopg [4] M (fun g j wr => ∃ (l n : Nat) (es : Array Obj), j = .int .i64 l ∧ wr = more (w.alloc (Obj.cells #[sv, .slice p M cap] 25)) n es ∧ g + l = M)
          case atStart => exact ⟨0, _, _, rfl, rfl, rfl⟩
          case round =>
            obtain ⟨l, n, es, rfl, rfl, hl⟩ := hrel
            have HL := Lib.hid hl
            clear hl
            by_cases hlt2 : l < M
            · by_cases h62 : l < 6
              · have h62i : decide ((l : Int) < 6) = true := by simp; omega
                obtain ⟨b, off, rfl, hb, ca0, ca1, ca2, sa0, sa1⟩ := H4.out k hlt
                obtain ⟨b', off', e', hb', cb0, cb1, cb2, sb0, sb1⟩ := H4.out l hlt2
                obtain ⟨rfl, rfl⟩ : b = b' ∧ off = off' := by simpa using e'
                clear e' hb'
                have hL : Lt b w.heap.size := hb
                clear hb
                generalize R k = ra at *
                generalize R l = rb at *
                obtain ⟨alo, ahi, atop⟩ := ra
                obtain ⟨blo, bhi, btop⟩ := rb
                dsimp only at ca0 ca1 ca2 sa0 sa1 cb0 cb1 cb2 sb0 sb1
                go_upto_region 9 with (fail)
                go_cut [5, 6] (fun pa pb wx => ∃ ba bb, pa = .pointer (some ⟨ba, 0, none⟩) ∧ pb = .pointer (some ⟨bb, 0, none⟩) ∧ Below (w.alloc (Obj.cells #[sv, .slice (some ⟨b, off, none⟩) M cap] 25)).heap.size (w.alloc (Obj.cells #[sv, .slice (some ⟨b, off, none⟩) M cap] 25)) wx ∧ Lt ba wx.heap.size ∧ Lt bb wx.heap.size ∧ RgAt wx ba ⟨alo, ahi, atop⟩ ∧ RgAt wx bb ⟨blo, bhi, btop⟩)
                case first =>
                  go_region
                  · go_wp2_with fail
                    go_meet
                    exact ⟨_, _, rfl, rfl, by (repeat (first | exact Below.refl _ _ | assumption | refine nw_more ?_ _ _ | refine nw_alloc ?_ _ | refine nw_drew ?_ | refine nw_drewN ?_ _ | refine nw_set ?_ (by first | (simp; done) | (simp; omega) | omega) _)), by simp [go_sem], by simp [go_sem], by simp [RgAt, go_sem], by simp [RgAt, go_sem]⟩
                  · go_wp2_with fail
                    go_meet
                    exact ⟨_, _, rfl, rfl, by (repeat (first | exact Below.refl _ _ | assumption | refine nw_more ?_ _ _ | refine nw_alloc ?_ _ | refine nw_drew ?_ | refine nw_drewN ?_ _ | refine nw_set ?_ (by first | (simp; done) | (simp; omega) | omega) _)), by simp [go_sem], by simp [go_sem], by simp [RgAt, go_sem], by simp [RgAt, go_sem]⟩
                case rest =>
                  obtain ⟨ba, bb, rfl, rfl, hbel, la, lb, ⟨a0, a1, a2⟩, ⟨b0, b1, b2⟩⟩ := hcut
                  have HB := Lib.hid hbel
                  clear hbel
                  dsimp only at a0 a1 a2 b0 b1 b2
                  cases hA : rangeB alo ahi atop
                  · go_wp2_with (first | (go_at_call 7; refine (over_any _ _ _ _ _ _ _ (by assumption) (by assumption) (by assumption) (by assumption)).mono ?_; (rintro e w' ⟨rfl, hb⟩; obtain ⟨n, es, rfl⟩ := below_more hb; clear hb)) | (go_at_call 8; refine (in_any _ _ _ _ _ _ _ (by assumption) (by assumption) (by assumption) (by assumption)).mono ?_; (rintro e w' ⟨rfl, hb⟩; obtain ⟨n, es, rfl⟩ := below_more hb; clear hb)) | (go_at_call 9; refine (both_any _ _ _ _ _ _ _ (by assumption) (by assumption) (by assumption) (by assumption)).mono ?_; (rintro e w' ⟨rfl, hb⟩; obtain ⟨n, es, rfl⟩ := below_more hb; clear hb)) | (go_at_call 10; refine (rrange_any _ _ _ _ (by assumption) (by assumption)).mono ?_; (rintro e w' ⟨rfl, hb⟩; obtain ⟨n, es, rfl⟩ := below_more hb; clear hb)) | (go_at_call 14; refine (num_any _ _).mono ?_; rintro e w' ⟨rfl, rfl⟩))
                    (go_roundg (gk - 1); (case measure => have := HL.out; omega); (case rel => exact mk_round (k := l + 1) (by go_num) (by have hbel := HB.out; (repeat (first | exact Below.refl _ _ | assumption | refine nw_more ?_ _ _ | refine nw_alloc ?_ _ | refine nw_drew ?_ | refine nw_drewN ?_ _ | refine nw_set ?_ (by first | (simp; done) | (simp; omega) | omega) _))) (by have := HL.out; omega)))
                  · cases hB : rangeB blo bhi btop
                    · go_wp2_with (first | (go_at_call 7; refine (over_any _ _ _ _ _ _ _ (by assumption) (by assumption) (by assumption) (by assumption)).mono ?_; (rintro e w' ⟨rfl, hb⟩; obtain ⟨n, es, rfl⟩ := below_more hb; clear hb)) | (go_at_call 8; refine (in_any _ _ _ _ _ _ _ (by assumption) (by assumption) (by assumption) (by assumption)).mono ?_; (rintro e w' ⟨rfl, hb⟩; obtain ⟨n, es, rfl⟩ := below_more hb; clear hb)) | (go_at_call 9; refine (both_any _ _ _ _ _ _ _ (by assumption) (by assumption) (by assumption) (by assumption)).mono ?_; (rintro e w' ⟨rfl, hb⟩; obtain ⟨n, es, rfl⟩ := below_more hb; clear hb)) | (go_at_call 10; refine (rrange_any _ _ _ _ (by assumption) (by assumption)).mono ?_; (rintro e w' ⟨rfl, hb⟩; obtain ⟨n, es, rfl⟩ := below_more hb; clear hb)) | (go_at_call 14; refine (num_any _ _).mono ?_; rintro e w' ⟨rfl, rfl⟩))
                      (go_roundg (gk - 1); (case measure => have := HL.out; omega); (case rel => exact mk_round (k := l + 1) (by go_num) (by have hbel := HB.out; (repeat (first | exact Below.refl _ _ | assumption | refine nw_more ?_ _ _ | refine nw_alloc ?_ _ | refine nw_drew ?_ | refine nw_drewN ?_ _ | refine nw_set ?_ (by first | (simp; done) | (simp; omega) | omega) _))) (by have := HL.out; omega)))
                    · go_upto_region 14 with (first | (go_at_call 7; refine (over_any _ _ _ _ _ _ _ (by assumption) (by assumption) (by assumption) (by assumption)).mono ?_; (rintro e w' ⟨rfl, hb⟩; obtain ⟨n, es, rfl⟩ := below_more hb; clear hb)) | (go_at_call 8; refine (in_any _ _ _ _ _ _ _ (by assumption) (by assumption) (by assumption) (by assumption)).mono ?_; (rintro e w' ⟨rfl, hb⟩; obtain ⟨n, es, rfl⟩ := below_more hb; clear hb)) | (go_at_call 9; refine (both_any _ _ _ _ _ _ _ (by assumption) (by assumption) (by assumption) (by assumption)).mono ?_; (rintro e w' ⟨rfl, hb⟩; obtain ⟨n, es, rfl⟩ := below_more hb; clear hb)) | (go_at_call 10; refine (rrange_any _ _ _ _ (by assumption) (by assumption)).mono ?_; (rintro e w' ⟨rfl, hb⟩; obtain ⟨n, es, rfl⟩ := below_more hb; clear hb)) | (go_at_call 14; refine (num_any _ _).mono ?_; rintro e w' ⟨rfl, rfl⟩))
                      go_cut [11, 14, 15, 16] (fun p11 s14 s15 p16 wx => ∃ c d, p11 = .pointer (some ⟨c, 0, none⟩) ∧ p16 = .pointer (some ⟨d, 0, none⟩) ∧ s14 = .bool false ∧ s15 = .bool false ∧ Below (w.alloc (Obj.cells #[sv, .slice (some ⟨b, off, none⟩) M cap] 25)).heap.size (w.alloc (Obj.cells #[sv, .slice (some ⟨b, off, none⟩) M cap] 25)) wx ∧ Lt c wx.heap.size ∧ Lt d wx.heap.size ∧ Lt ba wx.heap.size ∧ Lt bb wx.heap.size ∧ w.heap.size < d ∧ c ≠ d ∧ ba ≠ d ∧ bb ≠ d ∧ (∀ o, wx.frozen? ⟨d, o, none⟩ = false) ∧ RgAt wx d ⟨⟨#[]⟩, ⟨#[]⟩, false⟩ ∧ RgAt wx c ⟨maxB alo blo, bothHi alo ahi blo bhi atop btop, meetTop ahi bhi atop btop⟩ ∧ RgAt wx ba ⟨alo, ahi, atop⟩ ∧ RgAt wx bb ⟨blo, bhi, btop⟩)
                      case first =>
                        have hbel := HB.out
                        go_wp2_with fail
                        go_meet
                        refine ⟨_, _, rfl, rfl, rfl, rfl, by (repeat (first | exact Below.refl _ _ | assumption | refine nw_more ?_ _ _ | refine nw_alloc ?_ _ | refine nw_drew ?_ | refine nw_drewN ?_ _ | refine nw_set ?_ (by first | (simp; done) | (simp; omega) | omega) _)), by simp [go_sem], by simp [go_sem], by simp [go_sem, la], by simp [go_sem, lb], by have := hbel.size; simp at this; simp; omega, by simp, by have := la.out; intro e; omega, by have := lb.out; intro e; omega, by intro o; simp [go_sem], by simp [RgAt, go_sem], by simp [RgAt, go_sem], by simp [RgAt, go_sem, la, a0, a1, a2], by simp [RgAt, go_sem, lb, b0, b1, b2]⟩
                      case rest =>
                        clear HB la lb a0 a1 a2 b0 b1 b2
                        obtain ⟨c, d, rfl, rfl, rfl, rfl, hbel, lc, ld, la, lb, hd, hcd, had, hbd, fd, ⟨d0, d1, d2⟩, ⟨c0, c1, c2⟩, ⟨a0, a1, a2⟩, ⟨b0, b1, b2⟩⟩ := hcut
                        have HB := Lib.hid hbel
                        clear hbel
                        dsimp only at a0 a1 a2 b0 b1 b2 c0 c1 c2 d0 d1 d2
                        go_upto_region 17 with (first | (go_at_call 10; refine (rrange_any _ _ _ _ (by assumption) (by assumption)).mono ?_; (rintro e w' ⟨rfl, hb⟩; obtain ⟨n, es, rfl⟩ := below_more hb; clear hb)))
                        go_cut [14, 15] (fun s14 s15 wx => s14 = .bool (overB alo ahi blo bhi atop btop) ∧ s15 = .bool (inB alo ahi blo bhi atop btop) ∧ Below (w.alloc (Obj.cells #[sv, .slice (some ⟨b, off, none⟩) M cap] 25)).heap.size (w.alloc (Obj.cells #[sv, .slice (some ⟨b, off, none⟩) M cap] 25)) wx ∧ Lt c wx.heap.size ∧ Lt d wx.heap.size ∧ RgAt wx c ⟨maxB alo blo, bothHi alo ahi blo bhi atop btop, meetTop ahi bhi atop btop⟩ ∧ RgAt wx d ⟨maxB alo blo, rbothHi alo ahi blo bhi atop btop, atop && btop⟩)
                        case first =>
                          go_region_held3 (fun w' => w'.cell? ⟨ba, 0, none⟩ = some (.string alo) ∧ w'.cell? ⟨ba, 1, none⟩ = some (.string ahi) ∧ w'.cell? ⟨ba, 2, none⟩ = some (.bool atop) ∧ w'.cell? ⟨bb, 0, none⟩ = some (.string blo) ∧ w'.cell? ⟨bb, 1, none⟩ = some (.string bhi) ∧ w'.cell? ⟨bb, 2, none⟩ = some (.bool btop)) (simp [go_sem, la, lb, a0, a1, a2, b0, b1, b2, had, hbd, Ne.symm had, Ne.symm hbd]) (first | (go_at_call 11; refine (rover_any _ _ _ _ _ _ _).mono ?_; (rintro e w' ⟨rfl, hb⟩; obtain ⟨n, es, rfl⟩ := below_more hb; clear hb)) | (go_at_call 12; refine (rin_any _ _ _ _ _ _ _).mono ?_; (rintro e w' ⟨rfl, hb⟩; obtain ⟨n, es, rfl⟩ := below_more hb; clear hb)) | (go_at_call 13; refine (rboth_any _ _ _ _ _ _ _).mono ?_; (rintro e w' ⟨rfl, hb⟩; obtain ⟨n, es, rfl⟩ := below_more hb; clear hb)))
                          all_goals
                            have hbel := HB.out
                            go_wp2_with fail
                            go_meet
                            exact ⟨rfl, rfl, by (repeat (first | exact Below.refl _ _ | assumption | refine nw_more ?_ _ _ | refine nw_alloc ?_ _ | refine nw_drew ?_ | refine nw_drewN ?_ _ | refine nw_set ?_ (by first | (simp; done) | (simp; omega) | omega) _)), by simp [go_sem, lc], by simp [go_sem, ld], by simp [RgAt, go_sem, lc, c0, c1, c2, hcd, Ne.symm hcd], by simp [RgAt, go_sem, ld, d0, d1, d2]⟩
                        case rest =>
                          clear HB c0 c1 c2 d0 d1 d2 a0 a1 a2 b0 b1 b2 lc ld la lb fd
                          obtain ⟨rfl, rfl, hbel, lc, ld, ⟨c0, c1, c2⟩, ⟨d0, d1, d2⟩⟩ := hcut
                          have HB := Lib.hid hbel
                          clear hbel
                          rw [← bothHi_eq alo ahi blo bhi atop btop hA hB] at d1
                          rw [← meetTop_eq ahi bhi atop btop] at d2
                          dsimp only at c0 c1 c2 d0 d1 d2
                          go_wp2_with (first | (go_at_call 14; refine (num_any _ _).mono ?_; rintro e w' ⟨rfl, rfl⟩))
                          (go_roundg (gk - 1); (case measure => have := HL.out; omega); (case rel => exact mk_round (k := l + 1) (by go_num) (by have hbel := HB.out; (repeat (first | exact Below.refl _ _ | assumption | refine nw_more ?_ _ _ | refine nw_alloc ?_ _ | refine nw_drew ?_ | refine nw_drewN ?_ _ | refine nw_set ?_ (by first | (simp; done) | (simp; omega) | omega) _))) (by have := HL.out; omega)))
              · have h62i : decide ((l : Int) < 6) = false := by simp; omega
                go_wp2_with fail
                go_roundg (M - k - 1)
                case measure => omega
                case rel => exact mk_round (k := k + 1) (by go_num) (by (repeat (first | exact Below.refl _ _ | assumption | refine nw_more ?_ _ _ | refine nw_alloc ?_ _ | refine nw_drew ?_ | refine nw_drewN ?_ _ | refine nw_set ?_ (by first | (simp; done) | (simp; omega) | omega) _))) (by omega)
            · go_wp2_with fail
              go_roundg (M - k - 1)
              case measure => omega
              case rel => exact mk_round (k := k + 1) (by go_num) (by (repeat (first | exact Below.refl _ _ | assumption | refine nw_more ?_ _ _ | refine nw_alloc ?_ _ | refine nw_drew ?_ | refine nw_drewN ?_ _ | refine nw_set ?_ (by first | (simp; done) | (simp; omega) | omega) _))) (by omega)
        · go_wp2_with (first | (go_at_call 15; refine (wakes_any _).mono ?_; (rintro e w' ⟨rfl, hb⟩; obtain ⟨n, es, rfl⟩ := below_more hb; clear hb)))
          go_ret
          exact ⟨rfl, by (repeat (first | exact Below.refl _ _ | assumption | refine nw_more ?_ _ _ | refine nw_alloc ?_ _ | refine nw_drew ?_ | refine nw_drewN ?_ _ | refine nw_set ?_ (by first | (simp; done) | (simp; omega) | omega) _))⟩
      · go_wp2_with (first | (go_at_call 15; refine (wakes_any _).mono ?_; (rintro e w' ⟨rfl, hb⟩; obtain ⟨n, es, rfl⟩ := below_more hb; clear hb)))
        go_ret
        exact ⟨rfl, by (repeat (first | exact Below.refl _ _ | assumption | refine nw_more ?_ _ _ | refine nw_alloc ?_ _ | refine nw_drew ?_ | refine nw_drewN ?_ _ | refine nw_set ?_ (by first | (simp; done) | (simp; omega) | omega) _))⟩
end Go.Proofs.Ytogooibfphilaaa
