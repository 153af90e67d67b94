/- Contract of the page's own Waits: which waits may be. -/
import Derived.Test.YthkpeddgcglpcaaWaitM
import Derived.Deep.DeepCutAuto
namespace Go.Proofs.Ythkpeddgcglpcaa
open Go.RowKit

/-- The owner ahead of the k-th, or -1. -/
def Prev (P : List Wv) (k : Nat) (a : Int) : Prop := (k = 0 ∧ a = -1) ∨ ∃ j y, k = j + 1 ∧ P[j]? = some y ∧ y.o = a ∧ 0 ≤ a
def PrevI (l : List Int) (k : Nat) (a : Int) : Prop := (k = 0 ∧ a = -1) ∨ ∃ j, k = j + 1 ∧ l[j]? = some a ∧ 0 ≤ a

set_option maxRecDepth 100000 in
set_option maxHeartbeats 4000000 in
theorem refWaits_any (w : World) (v : Value) (l : List Wt) (h : WaitsAt w v l) :
    Calls Try.prog 9 #[v] w fun e w' => e = .returned (.bool (mayB l)) ∧ Below w.heap.size w w' := by
  obtain ⟨P, rfl, hP⟩ := h
  obtain ⟨p, cap, rfl, hl, ht⟩ := hP.at
  have H := Lib.hid ht
  clear hP ht
  by_cases h6 : P.length ≤ 6
  · have HB : Hid (mayB (P.map Wv.pl) = mayFrom (-1) (P.map Wv.pl)) := Lib.hid (by
      unfold mayB; rw [List.length_map, decide_eq_true h6, Bool.true_and])
    have h6' : decide ((6 : Int) < (P.length : Int)) = false := by simp; omega
    go_enter Try.func9, Try.ntmps9
    go_wp2
    go_loopg [3] (P.length + 1) (fun g s3 wr => (∃ n es, wr = more w n es) ∧ ∃ (k : Nat) (a : Int), k ≤ P.length ∧ g + k = P.length + 1 ∧ s3 = .int .i64 k ∧ Hid (mayFrom a ((P.drop k).map Wv.pl) = mayFrom (-1) (P.map Wv.pl)) ∧ Hid (Prev P k a))
    case atStart => exact ⟨below_more (Below.refl _ _), 0, -1, Nat.zero_le _, rfl, rfl, rfl, Lib.hid (.inl ⟨rfl, rfl⟩)⟩
    case round =>
      obtain ⟨⟨n, es, rfl⟩, k, a, hk, hg, rfl, HT, HPV⟩ := hrel
      obtain rfl : gk = P.length + 1 - k := by omega
      clear hg
      by_cases hlt : k < P.length
      · obtain ⟨b, off, x, rfl, hb, hc, hc1, hf, hd, hxk⟩ := H.out k hlt
        obtain ⟨xo, xv, xf⟩ := x
        dsimp only at hc hc1 hf
        obtain ⟨fp, fc, rfl⟩ := hf.slice
        have HT' : Hid (mayFrom a ((xo, xf) :: (P.drop (k + 1)).map Wv.pl) = mayFrom (-1) (P.map Wv.pl)) := by
          have := HT.out; rw [hd] at this; exact this
        have HX : Hid (P[k]? = some ⟨xo, .slice fp xf.length fc, xf⟩) := Lib.hid hxk
        have HF := Lib.hid hf
        clear hf hd hxk HT
        have ha1 : -1 ≤ a := by rcases HPV.out with ⟨-, h1⟩ | ⟨j, y, -, -, -, h1⟩ <;> omega
        have i1 : (0 : Int) ≤ (k : Int) := by omega
        have i2 : (k : Int) < (P.length : Int) := by omega
        by_cases hle : xo ≤ a
        · have HE : Hid (false = mayFrom (-1) (P.map Wv.pl)) := Lib.hid ((may_low (x := (xo, xf)) ((P.drop (k + 1)).map Wv.pl) hle).symm.trans HT'.out)
          clear HT'
          go_upto_region 6 with (fail)
          go_cut [51] (fun s51 wx => s51 = .bool true ∧ ∃ n es, wx = more w n es)
          case first =>
            by_cases hneg : xo < 0
            · (refine wp_region_quiet_more (by kernel_rfl) (by kernel_rfl) ?_; (repeat (first | go_big_quiet_skip | quiet_step ((first | fail)))); refine wpQuiet_nil ?_; intro _ hw'; obtain ⟨⟨nq, esq⟩, hw''⟩ := hw'; subst hw''; dsimp only)
              go_wp2_with fail
              go_meet
              exact ⟨rfl, below_more (by (repeat (first | exact Below.refl _ _ | assumption | refine nw_more ?_ _ _ | refine nw_alloc ?_ _ | refine nw_drew ?_ | refine nw_drewN ?_ _ | refine nw_set ?_ (by first | (simp; done) | (simp; omega) | omega) _)))⟩
            · rcases HPV.out with ⟨-, h1⟩ | ⟨j, y, rfl, hy, hya, ha0⟩
              · omega
              ·
                obtain ⟨b0, off0, x0, e0, -, hc0, -, -, -, hx0⟩ := H.out j (by omega)
                obtain ⟨rfl, rfl⟩ : b = b0 ∧ off = off0 := by simpa using e0
                obtain rfl : x0 = y := by rw [hx0] at hy; exact Option.some.inj hy
                rw [hya] at hc0
                have j1 : IntKind.i64.wrap (j : Int) = (j : Int) := IntWalk.i64_in _ (by omega)
                have j2 : (0 : Int) ≤ (j : Int) := by omega
                have j3 : (j : Int) < (P.length : Int) := by omega
                have j4 : (j : Int) + 1 < (P.length : Int) := by omega
                have j5 : ((j : Int) + 1).toNat = j + 1 := by omega
                have j6 : (0 : Int) < (j : Int) + 1 := by omega
                have j7 : (0 : Int) ≤ (j : Int) + 1 := by omega
                (refine wp_region_quiet_more (by kernel_rfl) (by kernel_rfl) ?_; (repeat (first | go_big_quiet_skip | quiet_step ((first | fail)))); refine wpQuiet_nil ?_; intro _ hw'; obtain ⟨⟨nq, esq⟩, hw''⟩ := hw'; subst hw''; dsimp only)
                go_wp2_with fail
                go_meet
                exact ⟨rfl, below_more (by (repeat (first | exact Below.refl _ _ | assumption | refine nw_more ?_ _ _ | refine nw_alloc ?_ _ | refine nw_drew ?_ | refine nw_drewN ?_ _ | refine nw_set ?_ (by first | (simp; done) | (simp; omega) | omega) _)))⟩
          case rest =>
          obtain ⟨rfl, n, es, rfl⟩ := hcut
          go_wp2
          go_ret
          exact ⟨ret_bool (by rw [HB.out, ← HE.out]), by (repeat (first | exact Below.refl _ _ | assumption | refine nw_more ?_ _ _ | refine nw_alloc ?_ _ | refine nw_drew ?_ | refine nw_drewN ?_ _ | refine nw_set ?_ (by first | (simp; done) | (simp; omega) | omega) _))⟩
        · cases hs : has xf xo
          · have HSF := Lib.hid hs
            have hz := idx_not hs
            have hfl := HF.out.1
            generalize hzz : idxL xf xo = z at hz
            have hzd : decide ((0 : Int) ≤ z) = false := by simp; omega
            have HZ := Lib.hid hzz
            clear hs hzz
            go_upto_region 6 with (fail)
            go_cut [51] (fun s51 wx => s51 = .bool false ∧ ∃ n es, wx = more w n es)
            case first =>
              rcases HPV.out with ⟨rfl, h1⟩ | ⟨j, y, rfl, hy, hya, ha0⟩
              ·
                have q1 : (0 : Int) < (P.length : Int) := by omega
                have j9 : ¬ xo < 0 := by omega
                simp only [Nat.zero_mul, Nat.add_zero] at hc hc1
                (refine wp_region_quiet_more (by kernel_rfl) (by kernel_rfl) ?_; (repeat (first | go_big_quiet_skip | quiet_step ((first | (go_at_call 15; exact Calls.more_same_int z HZ.out (in_any _ _ xf _ (HF.out.below (by (repeat (first | exact Below.refl _ _ | assumption | refine nw_more ?_ _ _ | refine nw_alloc ?_ _ | refine nw_drew ?_ | refine nw_drewN ?_ _ | refine nw_set ?_ (by first | (simp; done) | (simp; omega) | omega) _)))))))))); refine wpQuiet_nil ?_; intro _ hw'; obtain ⟨⟨nq, esq⟩, hw''⟩ := hw'; subst hw''; dsimp only)
                go_wp2_with fail
                go_meet
                exact ⟨rfl, below_more (by (repeat (first | exact Below.refl _ _ | assumption | refine nw_more ?_ _ _ | refine nw_alloc ?_ _ | refine nw_drew ?_ | refine nw_drewN ?_ _ | refine nw_set ?_ (by first | (simp; done) | (simp; omega) | omega) _)))⟩
              ·
                obtain ⟨b0, off0, x0, e0, -, hc0, -, -, -, hx0⟩ := H.out j (by omega)
                obtain ⟨rfl, rfl⟩ : b = b0 ∧ off = off0 := by simpa using e0
                obtain rfl : x0 = y := by rw [hx0] at hy; exact Option.some.inj hy
                rw [hya] at hc0
                have j1 : IntKind.i64.wrap (j : Int) = (j : Int) := IntWalk.i64_in _ (by omega)
                have j2 : (0 : Int) ≤ (j : Int) := by omega
                have j3 : (j : Int) < (P.length : Int) := by omega
                have j4 : (j : Int) + 1 < (P.length : Int) := by omega
                have j5 : ((j : Int) + 1).toNat = j + 1 := by omega
                have j6 : (0 : Int) < (j : Int) + 1 := by omega
                have j7 : (0 : Int) ≤ (j : Int) + 1 := by omega
                have j8 : ¬ xo ≤ a := by omega
                have j9 : ¬ xo < 0 := by omega
                (refine wp_region_quiet_more (by kernel_rfl) (by kernel_rfl) ?_; (repeat (first | go_big_quiet_skip | quiet_step ((first | (go_at_call 15; exact Calls.more_same_int z HZ.out (in_any _ _ xf _ (HF.out.below (by (repeat (first | exact Below.refl _ _ | assumption | refine nw_more ?_ _ _ | refine nw_alloc ?_ _ | refine nw_drew ?_ | refine nw_drewN ?_ _ | refine nw_set ?_ (by first | (simp; done) | (simp; omega) | omega) _)))))))))); refine wpQuiet_nil ?_; intro _ hw'; obtain ⟨⟨nq, esq⟩, hw''⟩ := hw'; subst hw''; dsimp only)
                go_wp2_with fail
                go_meet
                exact ⟨rfl, below_more (by (repeat (first | exact Below.refl _ _ | assumption | refine nw_more ?_ _ _ | refine nw_alloc ?_ _ | refine nw_drew ?_ | refine nw_drewN ?_ _ | refine nw_set ?_ (by first | (simp; done) | (simp; omega) | omega) _)))⟩
            case rest =>
            obtain ⟨rfl, n, es, rfl⟩ := hcut
            obtain ⟨fp', fc', fe, -, hti⟩ := HF.out.at
            obtain ⟨rfl, rfl⟩ : fp = fp' ∧ fc = fc' := by simpa using fe
            have HI := Lib.hid hti
            clear fe hti HZ hz hzd
            have hax : a < xo := by omega
            go_wp2_with fail
            go_loopg [4] (xf.length + 1) (fun g s4 wx => (∃ n es, wx = more w n es) ∧ ∃ (j : Nat) (cc : Int), j ≤ xf.length ∧ g + j = xf.length + 1 ∧ s4 = .int .i64 j ∧ Hid (risesFrom cc (xf.drop j) = risesB xf) ∧ Hid (PrevI xf j cc))
            case atStart => exact ⟨⟨n, es, rfl⟩, 0, -1, Nat.zero_le _, rfl, rfl, rfl, Lib.hid (.inl ⟨rfl, rfl⟩)⟩
            case round =>
              obtain ⟨⟨n, es, rfl⟩, t, cc, htl, hg, rfl, HR, HPI⟩ := hrel
              obtain rfl : gk = xf.length + 1 - t := by omega
              clear hg
              by_cases hlt2 : t < xf.length
              · obtain ⟨fb, foff, y, rfl, hfb, hfc, hfd, hfy⟩ := HI.out t hlt2
                have HR1 : Hid (risesFrom cc (y :: xf.drop (t + 1)) = risesB xf) := by have := HR.out; rw [hfd] at this; exact this
                have hcc1 : -1 ≤ cc := by rcases HPI.out with ⟨-, h1⟩ | ⟨j, -, -, h1⟩ <;> omega
                have HYM : Hid (xf[t]? = some y) := Lib.hid hfy
                clear hfd hfy HR
                have t1 : (0 : Int) ≤ (t : Int) := by omega
                have t2 : (t : Int) < (xf.length : Int) := by omega
                by_cases hyc : y ≤ cc
                · have HRF : Hid (risesB xf = false) := by have := HR1.out; rw [rises_no _ hyc] at this; exact this.symm
                  have HE : Hid (false = mayFrom (-1) (P.map Wv.pl)) := Lib.hid ((may_fall (a := a) (x := (xo, xf)) ((P.drop (k + 1)).map Wv.pl) HRF.out).symm.trans HT'.out)
                  clear HT' HR1
                  go_upto_region 11 with (fail)
                  go_cut [94] (fun s51 wx => s51 = .bool true ∧ ∃ n es, wx = more w n es)
                  case first =>
                    by_cases hneg : y < 0
                    ·
                      (refine wp_region_quiet_more (by kernel_rfl) (by kernel_rfl) ?_; (repeat (first | go_big_quiet_skip | quiet_step ((first | fail)))); refine wpQuiet_nil ?_; intro _ hw'; obtain ⟨⟨nq, esq⟩, hw''⟩ := hw'; subst hw''; dsimp only)
                      go_wp2_with fail
                      go_meet
                      exact ⟨rfl, below_more (by (repeat (first | exact Below.refl _ _ | assumption | refine nw_more ?_ _ _ | refine nw_alloc ?_ _ | refine nw_drew ?_ | refine nw_drewN ?_ _ | refine nw_set ?_ (by first | (simp; done) | (simp; omega) | omega) _)))⟩
                    · rcases HPI.out with ⟨-, h1⟩ | ⟨j, rfl, hy, ha0⟩
                      · omega
                      ·
                        obtain ⟨b0, off0, x0, e0, -, hc0, -, hx0⟩ := HI.out j (by omega)
                        obtain ⟨rfl, rfl⟩ : fb = b0 ∧ foff = off0 := by simpa using e0
                        obtain rfl : x0 = cc := by rw [hx0] at hy; exact Option.some.inj hy
                        have m1 : IntKind.i64.wrap (j : Int) = (j : Int) := IntWalk.i64_in _ (by omega)
                        have m2 : (0 : Int) ≤ (j : Int) := by omega
                        have m3 : (j : Int) < (xf.length : Int) := by omega
                        have m4 : (j : Int) + 1 < (xf.length : Int) := by omega
                        have m5 : ((j : Int) + 1).toNat = j + 1 := by omega
                        have m6 : (0 : Int) < (j : Int) + 1 := by omega
                        have m7 : (0 : Int) ≤ (j : Int) + 1 := by omega
                        (refine wp_region_quiet_more (by kernel_rfl) (by kernel_rfl) ?_; (repeat (first | go_big_quiet_skip | quiet_step ((first | fail)))); refine wpQuiet_nil ?_; intro _ hw'; obtain ⟨⟨nq, esq⟩, hw''⟩ := hw'; subst hw''; dsimp only)
                        go_wp2_with fail
                        go_meet
                        exact ⟨rfl, below_more (by (repeat (first | exact Below.refl _ _ | assumption | refine nw_more ?_ _ _ | refine nw_alloc ?_ _ | refine nw_drew ?_ | refine nw_drewN ?_ _ | refine nw_set ?_ (by first | (simp; done) | (simp; omega) | omega) _)))⟩
                  case rest =>
                  obtain ⟨rfl, n, es, rfl⟩ := hcut
                  go_wp2
                  go_ret
                  exact ⟨ret_bool (by rw [HB.out, ← HE.out]), by (repeat (first | exact Below.refl _ _ | assumption | refine nw_more ?_ _ _ | refine nw_alloc ?_ _ | refine nw_drew ?_ | refine nw_drewN ?_ _ | refine nw_set ?_ (by first | (simp; done) | (simp; omega) | omega) _))⟩
                · have HR2 : Hid (risesFrom y (xf.drop (t + 1)) = risesB xf) := by have := HR1.out; rw [rises_go _ (by omega)] at this; exact this
                  clear HR1
                  go_upto_region 11 with (fail)
                  go_cut [94] (fun s51 wx => s51 = .bool false ∧ ∃ n es, wx = more w n es)
                  case first =>
                    have hny : ¬ y < 0 := by omega
                    rcases HPI.out with ⟨rfl, h1⟩ | ⟨j, rfl, hy, ha0⟩
                    · have q1 : (0 : Int) < (xf.length : Int) := by omega
                      simp only [Nat.add_zero] at hfc
                      (refine wp_region_quiet_more (by kernel_rfl) (by kernel_rfl) ?_; (repeat (first | go_big_quiet_skip | quiet_step ((first | fail)))); refine wpQuiet_nil ?_; intro _ hw'; obtain ⟨⟨nq, esq⟩, hw''⟩ := hw'; subst hw''; dsimp only)
                      go_wp2_with fail
                      go_meet
                      exact ⟨rfl, below_more (by (repeat (first | exact Below.refl _ _ | assumption | refine nw_more ?_ _ _ | refine nw_alloc ?_ _ | refine nw_drew ?_ | refine nw_drewN ?_ _ | refine nw_set ?_ (by first | (simp; done) | (simp; omega) | omega) _)))⟩
                    ·
                      obtain ⟨b0, off0, x0, e0, -, hc0, -, hx0⟩ := HI.out j (by omega)
                      obtain ⟨rfl, rfl⟩ : fb = b0 ∧ foff = off0 := by simpa using e0
                      obtain rfl : x0 = cc := by rw [hx0] at hy; exact Option.some.inj hy
                      have m1 : IntKind.i64.wrap (j : Int) = (j : Int) := IntWalk.i64_in _ (by omega)
                      have m2 : (0 : Int) ≤ (j : Int) := by omega
                      have m3 : (j : Int) < (xf.length : Int) := by omega
                      have m4 : (j : Int) + 1 < (xf.length : Int) := by omega
                      have m5 : ((j : Int) + 1).toNat = j + 1 := by omega
                      have m6 : (0 : Int) < (j : Int) + 1 := by omega
                      have m7 : (0 : Int) ≤ (j : Int) + 1 := by omega
                      (refine wp_region_quiet_more (by kernel_rfl) (by kernel_rfl) ?_; (repeat (first | go_big_quiet_skip | quiet_step ((first | fail)))); refine wpQuiet_nil ?_; intro _ hw'; obtain ⟨⟨nq, esq⟩, hw''⟩ := hw'; subst hw''; dsimp only)
                      go_wp2_with fail
                      go_meet
                      exact ⟨rfl, below_more (by (repeat (first | exact Below.refl _ _ | assumption | refine nw_more ?_ _ _ | refine nw_alloc ?_ _ | refine nw_drew ?_ | refine nw_drewN ?_ _ | refine nw_set ?_ (by first | (simp; done) | (simp; omega) | omega) _)))⟩
                  case rest =>
                  obtain ⟨rfl, n, es, rfl⟩ := hcut
                  go_wp2
                  go_roundg (xf.length + 1 - t - 1)
                  case measure => omega
                  case rel => exact ⟨below_more (by (repeat (first | exact Below.refl _ _ | assumption | refine nw_more ?_ _ _ | refine nw_alloc ?_ _ | refine nw_drew ?_ | refine nw_drewN ?_ _ | refine nw_set ?_ (by first | (simp; done) | (simp; omega) | omega) _))), t + 1, y, by omega, by omega, by go_num, HR2, Lib.hid (.inr ⟨t, rfl, HYM.out, by omega⟩)⟩
              · have e : t = xf.length := by omega
                have HRT : Hid (risesB xf = true) := by have := HR.out; rw [e, List.drop_length] at this; exact this.symm
                have HE := Lib.hid ((may_go (x := (xo, xf)) ((P.drop (k + 1)).map Wv.pl) hax HRT.out HSF.out).symm.trans HT'.out)
                clear e HR HT'
                go_wp2_with fail
                go_roundg (P.length + 1 - k - 1)
                case measure => omega
                case rel => exact ⟨below_more (by (repeat (first | exact Below.refl _ _ | assumption | refine nw_more ?_ _ _ | refine nw_alloc ?_ _ | refine nw_drew ?_ | refine nw_drewN ?_ _ | refine nw_set ?_ (by first | (simp; done) | (simp; omega) | omega) _))), k + 1, xo, by omega, by omega, by go_num, HE.out, Lib.hid (.inr ⟨k, _, rfl, HX.out, rfl, by omega⟩)⟩
          · have HE : Hid (false = mayFrom (-1) (P.map Wv.pl)) := Lib.hid ((may_self (a := a) (x := (xo, xf)) ((P.drop (k + 1)).map Wv.pl) hs).symm.trans HT'.out)
            have hz := idx_has hs
            generalize hzz : idxL xf xo = z at hz
            have hzd : decide ((0 : Int) ≤ z) = true := by simp; omega
            have HZ := Lib.hid hzz
            clear hs hzz HT'
            go_upto_region 6 with (fail)
            go_cut [51] (fun s51 wx => s51 = .bool true ∧ ∃ n es, wx = more w n es)
            case first =>
              rcases HPV.out with ⟨rfl, h1⟩ | ⟨j, y, rfl, hy, hya, ha0⟩
              ·
                have q1 : (0 : Int) < (P.length : Int) := by omega
                have j9 : ¬ xo < 0 := by omega
                simp only [Nat.zero_mul, Nat.add_zero] at hc hc1
                (refine wp_region_quiet_more (by kernel_rfl) (by kernel_rfl) ?_; (repeat (first | go_big_quiet_skip | quiet_step ((first | (go_at_call 15; exact Calls.more_same_int z HZ.out (in_any _ _ xf _ (HF.out.below (by (repeat (first | exact Below.refl _ _ | assumption | refine nw_more ?_ _ _ | refine nw_alloc ?_ _ | refine nw_drew ?_ | refine nw_drewN ?_ _ | refine nw_set ?_ (by first | (simp; done) | (simp; omega) | omega) _)))))))))); refine wpQuiet_nil ?_; intro _ hw'; obtain ⟨⟨nq, esq⟩, hw''⟩ := hw'; subst hw''; dsimp only)
                go_wp2_with fail
                go_meet
                exact ⟨rfl, below_more (by (repeat (first | exact Below.refl _ _ | assumption | refine nw_more ?_ _ _ | refine nw_alloc ?_ _ | refine nw_drew ?_ | refine nw_drewN ?_ _ | refine nw_set ?_ (by first | (simp; done) | (simp; omega) | omega) _)))⟩
              ·
                obtain ⟨b0, off0, x0, e0, -, hc0, -, -, -, hx0⟩ := H.out j (by omega)
                obtain ⟨rfl, rfl⟩ : b = b0 ∧ off = off0 := by simpa using e0
                obtain rfl : x0 = y := by rw [hx0] at hy; exact Option.some.inj hy
                rw [hya] at hc0
                have j1 : IntKind.i64.wrap (j : Int) = (j : Int) := IntWalk.i64_in _ (by omega)
                have j2 : (0 : Int) ≤ (j : Int) := by omega
                have j3 : (j : Int) < (P.length : Int) := by omega
                have j4 : (j : Int) + 1 < (P.length : Int) := by omega
                have j5 : ((j : Int) + 1).toNat = j + 1 := by omega
                have j6 : (0 : Int) < (j : Int) + 1 := by omega
                have j7 : (0 : Int) ≤ (j : Int) + 1 := by omega
                have j8 : ¬ xo ≤ a := by omega
                have j9 : ¬ xo < 0 := by omega
                (refine wp_region_quiet_more (by kernel_rfl) (by kernel_rfl) ?_; (repeat (first | go_big_quiet_skip | quiet_step ((first | (go_at_call 15; exact Calls.more_same_int z HZ.out (in_any _ _ xf _ (HF.out.below (by (repeat (first | exact Below.refl _ _ | assumption | refine nw_more ?_ _ _ | refine nw_alloc ?_ _ | refine nw_drew ?_ | refine nw_drewN ?_ _ | refine nw_set ?_ (by first | (simp; done) | (simp; omega) | omega) _)))))))))); refine wpQuiet_nil ?_; intro _ hw'; obtain ⟨⟨nq, esq⟩, hw''⟩ := hw'; subst hw''; dsimp only)
                go_wp2_with fail
                go_meet
                exact ⟨rfl, below_more (by (repeat (first | exact Below.refl _ _ | assumption | refine nw_more ?_ _ _ | refine nw_alloc ?_ _ | refine nw_drew ?_ | refine nw_drewN ?_ _ | refine nw_set ?_ (by first | (simp; done) | (simp; omega) | omega) _)))⟩
            case rest =>
            obtain ⟨rfl, n, es, rfl⟩ := hcut
            go_wp2
            go_ret
            exact ⟨ret_bool (by rw [HB.out, ← HE.out]), by (repeat (first | exact Below.refl _ _ | assumption | refine nw_more ?_ _ _ | refine nw_alloc ?_ _ | refine nw_drew ?_ | refine nw_drewN ?_ _ | refine nw_set ?_ (by first | (simp; done) | (simp; omega) | omega) _))⟩
      · have e : k = P.length := by omega
        have HE : Hid (true = mayFrom (-1) (P.map Wv.pl)) := by have := HT.out; rw [e, List.drop_length] at this; exact this
        clear e HT H
        go_wp2
        go_ret
        exact ⟨ret_bool (by rw [HB.out, ← HE.out]), by (repeat (first | exact Below.refl _ _ | assumption | refine nw_more ?_ _ _ | refine nw_alloc ?_ _ | refine nw_drew ?_ | refine nw_drewN ?_ _ | refine nw_set ?_ (by first | (simp; done) | (simp; omega) | omega) _))⟩
  · have HB : Hid (mayB (P.map Wv.pl) = false) := Lib.hid (by
      unfold mayB; rw [List.length_map, decide_eq_false h6, Bool.false_and])
    have h6' : decide ((6 : Int) < (P.length : Int)) = true := by simp; omega
    go_enter Try.func9, Try.ntmps9
    go_wp2
    go_ret
    exact ⟨ret_bool HB.out.symm, by (repeat (first | exact Below.refl _ _ | assumption | refine nw_more ?_ _ _ | refine nw_alloc ?_ _ | refine nw_drew ?_ | refine nw_drewN ?_ _ | refine nw_set ?_ (by first | (simp; done) | (simp; omega) | omega) _))⟩
end Go.Proofs.Ythkpeddgcglpcaa
