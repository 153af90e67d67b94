/- WaitRings returns true. -/
import Derived.Test.YthkpeddgcglpcaaWaitK
import Derived.Deep.AppendLies
import Derived.Deep.DeepCutAuto
import Derived.Deep.RegionLaw
namespace Go.Proofs.Ythkpeddgcglpcaa
open Go.RowKit

theorem ring_cast (k r : Nat) : (((k + 1) % (r + 2) : Nat) : Int) = ((k : Int) + 1) % (2 + (r : Int)) := by
  rw [Int.natCast_emod, show ((k + 1 : Nat) : Int) = (k : Int) + 1 by omega, show ((r + 2 : Nat) : Int) = 2 + (r : Int) by omega]
theorem age_cast (k b r : Nat) : ((ageN (r + 2) b k : Nat) : Int) = 1 + ((k : Int) + (b : Int)) % (2 + (r : Int)) := by
  unfold ageN
  rw [show ((1 + (k + b) % (r + 2) : Nat) : Int) = 1 + (((k + b) % (r + 2) : Nat) : Int) by omega, Int.natCast_emod, show ((k + b : Nat) : Int) = (k : Int) + b by omega, show ((r + 2 : Nat) : Int) = 2 + (r : Int) by omega]

set_option maxRecDepth 100000 in
set_option maxHeartbeats 4000000 in
theorem waitRings_any (w : World) (pl pa pn : Option Addr) (nl na nn cl ca cn : Nat) :
    Calls Try.prog 4 #[.agg #[.slice pl nl cl, .slice pa na ca, .slice pn nn cn]] w fun e w' => e = .returned (.bool true) ∧ Below w.heap.size w w' := by
  obtain ⟨i0, hi, hz0, hz1, hz2⟩ := info_parts info_wait
  have HI := Lib.hid hi
  obtain ⟨j0, hj, hy0, hy1, hy2⟩ := info_parts info_int
  have HJ := Lib.hid hj
  clear hi hj
  go_enter Try.func4, Try.ntmps4
  go_wp2_with fail
  (go_at_call 18; refine (within_any _ 5 _ (by decide) (by decide)).mono ?_; rintro e w' ⟨⟨r, hr, rfl⟩, rfl⟩)
  go_wp2_with fail
  (go_at_call 18; refine (within_any _ 7 _ (by decide) (by decide)).mono ?_; rintro e w' ⟨⟨by7, hb7, rfl⟩, rfl⟩)
  go_wp2_with fail
  go_loopg [5, 6, 7, 8] (r + 3) (fun g s5 s6 s7 s8 wr => ∃ (k : Nat) (P : List Wv), k ≤ r + 2 ∧ g + k = r + 3 ∧ s8 = .int .i64 k ∧ s7 = .int .i64 (youngN (r + 2) by7 k : Nat) ∧ Hid (P.length = k) ∧ Hid (P.map Wv.pl = ringTake (r + 2) k) ∧ Hid (Apart s6 P) ∧ Hid (ForsOwn w.heap.size wr P) ∧ Hid (OwnW w.heap.size wr s5 P) ∧ Hid (OwnI w.heap.size wr s6 (ageTake (r + 2) by7 k)) ∧ Hid (Below w.heap.size w wr))
  case atStart => exact ⟨0, [], by omega, by omega, rfl, rfl, rfl, rfl, Lib.hid (fun x hx => by cases hx), Lib.hid (fun x hx => by cases hx), OwnW.nil _ _, OwnI.nil _ _, by (repeat (first | exact Below.refl _ _ | assumption | refine nw_more ?_ _ _ | refine nw_alloc ?_ _ | refine nw_drew ?_ | refine nw_drewN ?_ _ | refine nw_set ?_ (by first | (simp; done) | (simp; omega) | omega) _))⟩
  case round =>
    obtain ⟨k, P, hk, hg, rfl, rfl, HK, HP, HAP, HF, HO, HA, HB⟩ := hrel
    obtain rfl : gk = r + 3 - k := by omega
    clear hg
    by_cases hlt : k < r + 2
    · have hPk : P.length ≤ 100 := by rw [HK.out]; omega
      have HP2 : Hid ((P ++ [Wv.mk k (.slice (some ⟨wr.heap.size, 0, none⟩) 1 1) [((k : Int) + 1) % (2 + (r : Int))]]).map Wv.pl = ringTake (r + 2) (k + 1)) := by
        rw [map_snoc, HP.out, ring_snoc, ring_cast]; rfl
      go_wp2_with (at_builtin; refine wpList_append_own _ rfl _ _ 27 rfl w.heap.size 41 i0 (.agg #[.int .i64 0, .slice none 0 0]) 2 32 Try.underlying27 HI.out hz0 hz1 hz2 rfl (by decide) _ _ _ rfl (own_below HO.out (by (repeat (first | exact Below.refl _ _ | assumption | refine nw_more ?_ _ _ | refine nw_alloc ?_ _ | refine nw_drew ?_ | refine nw_drewN ?_ _ | refine nw_set ?_ (by first | (simp; done) | (simp; omega) | omega) _)))) ⟨_, 0, none⟩ 1 1 [.int .i64 (k : Int), (.slice (some ⟨wr.heap.size, 0, none⟩) 1 1)] rfl rfl ?c1 ?c2 ?c3 ?c4 ?c5 ?_)
      ((case c1 => exact news2 (by simp [go_sem]) (by simp [go_sem])); (case c2 => exact news2_one rfl rfl); (case c3 => have hfit := hPk; unfold maxLen; omega); (case c4 => have hfit := hPk; omega); (case c5 => have := HB.out.size; simp; omega))
      intro v' w1 hown' hgrow hnil
      have HO2 : Hid (OwnW w.heap.size w1 v' _) := Lib.hid (own_snoc (Q := P) (x := ⟨k, .slice (some ⟨wr.heap.size, 0, none⟩) 1 1, [((k : Int) + 1) % (2 + (r : Int))]⟩) hown')
      have HF2 : Hid (ForsOwn w.heap.size w1 _) := Lib.hid (ForsOwn.snoc (x := ⟨k, .slice (some ⟨wr.heap.size, 0, none⟩) 1 1, [((k : Int) + 1) % (2 + (r : Int))]⟩) (HF.out.below (by (repeat (first | exact Below.refl _ _ | assumption | refine nw_more ?_ _ _ | refine nw_alloc ?_ _ | refine nw_drew ?_ | refine nw_drewN ?_ _ | refine nw_set ?_ (by first | (simp; done) | (simp; omega) | omega) _)))) (own_below HO.out (by (repeat (first | exact Below.refl _ _ | assumption | refine nw_more ?_ _ _ | refine nw_alloc ?_ _ | refine nw_drew ?_ | refine nw_drewN ?_ _ | refine nw_set ?_ (by first | (simp; done) | (simp; omega) | omega) _)))) (own_below (OwnI.lit w.heap.size wr HB.out.size (((k : Int) + 1) % (2 + (r : Int)))) (by (repeat (first | exact Below.refl _ _ | assumption | refine nw_more ?_ _ _ | refine nw_alloc ?_ _ | refine nw_drew ?_ | refine nw_drewN ?_ _ | refine nw_set ?_ (by first | (simp; done) | (simp; omega) | omega) _)))) hgrow)
      have HA2 : Hid (OwnI w.heap.size w1 _ (ageTake (r + 2) by7 k)) := Lib.hid (OwnI.grown (P := P) (own_below HA.out (by (repeat (first | exact Below.refl _ _ | assumption | refine nw_more ?_ _ _ | refine nw_alloc ?_ _ | refine nw_drew ?_ | refine nw_drewN ?_ _ | refine nw_set ?_ (by first | (simp; done) | (simp; omega) | omega) _)))) (own_below HO.out (by (repeat (first | exact Below.refl _ _ | assumption | refine nw_more ?_ _ _ | refine nw_alloc ?_ _ | refine nw_drew ?_ | refine nw_drewN ?_ _ | refine nw_set ?_ (by first | (simp; done) | (simp; omega) | omega) _)))) hgrow)
      have HB2 := Lib.hid (below_append (w := w) (by have hbel := HB.out; (repeat (first | exact Below.refl _ _ | assumption | refine nw_more ?_ _ _ | refine nw_alloc ?_ _ | refine nw_drew ?_ | refine nw_drewN ?_ _ | refine nw_set ?_ (by first | (simp; done) | (simp; omega) | omega) _))) (own_below HO.out (by (repeat (first | exact Below.refl _ _ | assumption | refine nw_more ?_ _ _ | refine nw_alloc ?_ _ | refine nw_drew ?_ | refine nw_drewN ?_ _ | refine nw_set ?_ (by first | (simp; done) | (simp; omega) | omega) _)))) hgrow)
      have HAP2 : Hid (Apart _ (P ++ [Wv.mk k (.slice (some ⟨wr.heap.size, 0, none⟩) 1 1) [((k : Int) + 1) % (2 + (r : Int))]])) := Lib.hid (HAP.out.snoc (fun g hg hb => by
        have h1 := (HA.out.lt g hg).2
        simp only [ownBlock_mk, Option.some.injEq] at hb
        omega))
      clear hown' hgrow hnil HO HB HF HP HA HAP
      have hq0 : 0 ≤ ((k : Int) + (by7 : Int)) % (2 + (r : Int)) := Int.emod_nonneg _ (by omega)
      have hq1 : ((k : Int) + (by7 : Int)) % (2 + (r : Int)) < 2 + (r : Int) := Int.emod_lt_of_pos _ (by omega)
      have HA3 : Hid (w1.ownsRow w.heap.size 3 1 _ k ((ageTake (r + 2) by7 k).map (Value.int .i64))) := Lib.hid (by have := HA2.out; unfold OwnI at this; rw [age_len] at this; exact this)
      go_wp2_with (at_builtin; refine wpList_append_lies _ rfl _ _ 23 rfl w.heap.size 3 j0 (.int .i64 0) 1 8 Try.underlying23 HJ.out hy0 hy1 hy2 rfl (by decide) _ k _ rfl (own_below HA3.out (by (repeat (first | exact Below.refl _ _ | assumption | refine nw_more ?_ _ _ | refine nw_alloc ?_ _ | refine nw_drew ?_ | refine nw_drewN ?_ _ | refine nw_set ?_ (by first | (simp; done) | (simp; omega) | omega) _)))) ⟨_, 0, none⟩ 1 1 [.int .i64 (1 + ((k : Int) + (by7 : Int)) % (2 + (r : Int)))] rfl rfl ?d1 ?d2 (by decide) ?d3 ?d4 ?d5 _ rfl ?_)
      case d1 => exact news1 (by simp [go_sem])
      case d2 => exact news1_one rfl
      case d3 => unfold maxLen; omega
      case d4 => omega
      case d5 => have := HB2.out.size; simp; omega
      · intro g2 cap2 w2 hown2 hgrow2 hlies hglt
        have hc1 := hown2.cellAt k (by omega)
        have hc2 := hown2.cellAt (youngN (r + 2) by7 k) (by have := young_lt (r + 2) by7 k; omega)
        have HAI : Hid (OwnI w.heap.size w2 (.slice (some ⟨g2, 0, none⟩) (k + 1) cap2) (ageTake (r + 2) by7 (k + 1))) := Lib.hid (by
          unfold OwnI; rw [age_len, age_snoc, List.map_append, age_cast]; exact hown2)
        rw [show ((ageTake (r + 2) by7 k).map (Value.int .i64) ++ [.int .i64 (1 + ((k : Int) + (by7 : Int)) % (2 + (r : Int)))]) = (ageTake (r + 2) by7 (k + 1)).map (Value.int .i64) by rw [age_snoc, List.map_append, age_cast]; rfl] at hc1 hc2
        rw [List.getElem?_map, age_get _ _ _ _ (by omega)] at hc1
        rw [List.getElem?_map, age_get _ _ _ _ (by have := young_lt (r + 2) by7 k; omega)] at hc2
        have hF3 : ForsOwn w.heap.size (w1.alloc (Obj.cells #[.int .i64 (1 + ((k : Int) + (by7 : Int)) % (2 + (r : Int)))] 3)) _ := HF2.out.below (by (repeat (first | exact Below.refl _ _ | assumption | refine nw_more ?_ _ _ | refine nw_alloc ?_ _ | refine nw_drew ?_ | refine nw_drewN ?_ _ | refine nw_set ?_ (by first | (simp; done) | (simp; omega) | omega) _)))
        have HF3 := Lib.hid (ForsOwn.grownI hF3 HAP2.out hgrow2)
        have HO3 := Lib.hid (OwnW.grownI (own_below HO2.out (by (repeat (first | exact Below.refl _ _ | assumption | refine nw_more ?_ _ _ | refine nw_alloc ?_ _ | refine nw_drew ?_ | refine nw_drewN ?_ _ | refine nw_set ?_ (by first | (simp; done) | (simp; omega) | omega) _)))) (l := ageTake (r + 2) by7 k) (by unfold OwnI; rw [age_len]; exact own_below HA3.out (by (repeat (first | exact Below.refl _ _ | assumption | refine nw_more ?_ _ _ | refine nw_alloc ?_ _ | refine nw_drew ?_ | refine nw_drewN ?_ _ | refine nw_set ?_ (by first | (simp; done) | (simp; omega) | omega) _)))) hgrow2)
        have HAP3 : Hid (Apart (.slice (some ⟨g2, 0, none⟩) (k + 1) cap2) _) := Lib.hid (Apart.next hF3 HAP2.out hlies (by simp))
        have HB3 := Lib.hid (below_append (w := w) (by have hbel := HB2.out; (repeat (first | exact Below.refl _ _ | assumption | refine nw_more ?_ _ _ | refine nw_alloc ?_ _ | refine nw_drew ?_ | refine nw_drewN ?_ _ | refine nw_set ?_ (by first | (simp; done) | (simp; omega) | omega) _))) (own_below HA3.out (by (repeat (first | exact Below.refl _ _ | assumption | refine nw_more ?_ _ _ | refine nw_alloc ?_ _ | refine nw_drew ?_ | refine nw_drewN ?_ _ | refine nw_set ?_ (by first | (simp; done) | (simp; omega) | omega) _)))) hgrow2)
        have hg2 : Lt g2 w2.heap.size := hglt
        simp only [Option.map_some] at hc1 hc2
        clear hown2 hgrow2 hlies hglt HA3 HA2 HO2 HF2 hF3 HAP2 HB2
        go_wp2_with fail
        have hyk := young_lt (r + 2) by7 k
        have HYS : Hid (youngN (r + 2) by7 (k + 1) = if ageN (r + 2) by7 (youngN (r + 2) by7 k) < ageN (r + 2) by7 k then k else youngN (r + 2) by7 k) := Lib.hid rfl
        generalize hy : youngN (r + 2) by7 k = y at *
        have i9 : (0 : Int) ≤ (k : Int) := by omega
        have i1 : (k : Int) < (k : Int) + 1 := by omega
        have i2 : (0 : Int) ≤ (y : Int) := by omega
        have i3 : (y : Int) < (k : Int) + 1 := by omega
        by_cases hgt : ageN (r + 2) by7 y < ageN (r + 2) by7 k
        · have HE : Hid (youngN (r + 2) by7 (k + 1) = k) := Lib.hid (by rw [HYS.out, if_pos hgt])
          have hgi : ((ageN (r + 2) by7 y : Nat) : Int) < ((ageN (r + 2) by7 k : Nat) : Int) := by omega
          generalize ((ageN (r + 2) by7 y : Nat) : Int) = ay at *
          generalize ((ageN (r + 2) by7 k : Nat) : Int) = ak at *
          clear hgt hy HYS
          (refine wp_region_quiet_more (by kernel_rfl) (by kernel_rfl) ?_; (repeat (first | go_big_quiet_skip | quiet_step ((first | fail)))); refine wpQuiet_nil ?_; intro _ hw'; obtain ⟨⟨nq, esq⟩, hw''⟩ := hw'; subst hw''; dsimp only)
          go_wp2
          go_roundg (r + 3 - k - 1)
          case measure => omega
          case rel => exact ⟨k + 1, _, by omega, by omega, by go_num, by rw [HE.out], Lib.hid (by rw [List.length_append, HK.out]; rfl), HP2, HAP3, Lib.hid (HF3.out.below (by (repeat (first | exact Below.refl _ _ | assumption | refine nw_more ?_ _ _ | refine nw_alloc ?_ _ | refine nw_drew ?_ | refine nw_drewN ?_ _ | refine nw_set ?_ (by first | (simp; done) | (simp; omega) | omega) _)))), Lib.hid (own_below HO3.out (by (repeat (first | exact Below.refl _ _ | assumption | refine nw_more ?_ _ _ | refine nw_alloc ?_ _ | refine nw_drew ?_ | refine nw_drewN ?_ _ | refine nw_set ?_ (by first | (simp; done) | (simp; omega) | omega) _)))), Lib.hid (own_below HAI.out (by (repeat (first | exact Below.refl _ _ | assumption | refine nw_more ?_ _ _ | refine nw_alloc ?_ _ | refine nw_drew ?_ | refine nw_drewN ?_ _ | refine nw_set ?_ (by first | (simp; done) | (simp; omega) | omega) _)))), Lib.hid (by have hbel := HB3.out; (repeat (first | exact Below.refl _ _ | assumption | refine nw_more ?_ _ _ | refine nw_alloc ?_ _ | refine nw_drew ?_ | refine nw_drewN ?_ _ | refine nw_set ?_ (by first | (simp; done) | (simp; omega) | omega) _)))⟩
        · have HE : Hid (youngN (r + 2) by7 (k + 1) = y) := Lib.hid (by rw [HYS.out, if_neg hgt])
          have hgi : ¬ ((ageN (r + 2) by7 y : Nat) : Int) < ((ageN (r + 2) by7 k : Nat) : Int) := by omega
          generalize ((ageN (r + 2) by7 y : Nat) : Int) = ay at *
          generalize ((ageN (r + 2) by7 k : Nat) : Int) = ak at *
          clear hgt hy HYS
          (refine wp_region_quiet_more (by kernel_rfl) (by kernel_rfl) ?_; (repeat (first | go_big_quiet_skip | quiet_step ((first | fail)))); refine wpQuiet_nil ?_; intro _ hw'; obtain ⟨⟨nq, esq⟩, hw''⟩ := hw'; subst hw''; dsimp only)
          go_wp2
          go_roundg (r + 3 - k - 1)
          case measure => omega
          case rel => exact ⟨k + 1, _, by omega, by omega, by go_num, by rw [HE.out], Lib.hid (by rw [List.length_append, HK.out]; rfl), HP2, HAP3, Lib.hid (HF3.out.below (by (repeat (first | exact Below.refl _ _ | assumption | refine nw_more ?_ _ _ | refine nw_alloc ?_ _ | refine nw_drew ?_ | refine nw_drewN ?_ _ | refine nw_set ?_ (by first | (simp; done) | (simp; omega) | omega) _)))), Lib.hid (own_below HO3.out (by (repeat (first | exact Below.refl _ _ | assumption | refine nw_more ?_ _ _ | refine nw_alloc ?_ _ | refine nw_drew ?_ | refine nw_drewN ?_ _ | refine nw_set ?_ (by first | (simp; done) | (simp; omega) | omega) _)))), Lib.hid (own_below HAI.out (by (repeat (first | exact Below.refl _ _ | assumption | refine nw_more ?_ _ _ | refine nw_alloc ?_ _ | refine nw_drew ?_ | refine nw_drewN ?_ _ | refine nw_set ?_ (by first | (simp; done) | (simp; omega) | omega) _)))), Lib.hid (by have hbel := HB3.out; (repeat (first | exact Below.refl _ _ | assumption | refine nw_more ?_ _ _ | refine nw_alloc ?_ _ | refine nw_drew ?_ | refine nw_drewN ?_ _ | refine nw_set ?_ (by first | (simp; done) | (simp; omega) | omega) _)))⟩
    · have e : k = r + 2 := by omega
      have HLN : Hid (P.length = r + 2) := Lib.hid (by rw [HK.out, e])
      have HFS : Hid (∀ x ∈ P, x.f.length ≤ 1000000) := Lib.hid (fun x hx => by
          have h1 := ring_for (r + 2) k x.pl (by rw [← HP.out]; exact List.mem_map_of_mem (f := Wv.pl) hx)
          exact Nat.le_trans h1.2 (by omega))
      have HWA : Hid (WvAt wr _ P) := Lib.hid (WvAt.own HO.out (by rw [HLN.out]; omega) (fun x hx => (HF.out x hx).at (HFS.out x hx)))
      have HPL : Hid (P.map Wv.pl = ringL (r + 2)) := Lib.hid (by rw [HP.out, e]; rfl)
      have HA1 : Hid (WaitsAt wr _ (ringL (r + 2))) := Lib.hid ⟨P, HPL.out, HWA.out⟩
      have HV : Hid (IntsAt wr _ (ringAges (r + 2) by7)) := Lib.hid (by have h := HA.out.at (by rw [age_len]; omega); rw [e] at h; exact h)
      have HM := Lib.hid (ring_may r hr)
      have HAG := Lib.hid (ring_ages r hr by7 hb7)
      have HAL := Lib.hid (ring_all r hr by7 hb7)
      have HYO : Hid (∀ o, o < r + 2 → youngL (ringAges (r + 2) by7) (circleL (ringL (r + 2)) (o : Nat)) = ((youngN (r + 2) by7 k : Nat) : Int)) := Lib.hid (by rw [e]; exact ring_young r hr by7 hb7)
      generalize youngN (r + 2) by7 k = yy at *
      clear HO HF HP HA HAP HK e
      go_wp2_with fail
      go_loopg [9] (r + 3) (fun g s9 wx => (∃ n es, wx = more wr n es) ∧ ∃ o : Nat, o ≤ r + 2 ∧ g + o = r + 3 ∧ s9 = .int .i64 o)
      case atStart => exact ⟨below_more (Below.refl _ _), 0, by omega, by omega, rfl⟩
      case round =>
        obtain ⟨⟨n, es, rfl⟩, o, ho, hg, rfl⟩ := hrel
        obtain rfl : gk = r + 3 - o := by omega
        clear hg
        by_cases hlt2 : o < r + 2
        · have HC := Lib.hid (ring_circle r hr o hlt2)
          have HY := Lib.hid (HYO.out o hlt2)
          go_wp2_with fail
          refine (Circle_any _ _ (ringL (r + 2)) _ (HA1.out.below (by (repeat (first | exact Below.refl _ _ | assumption | refine nw_more ?_ _ _ | refine nw_alloc ?_ _ | refine nw_drew ?_ | refine nw_drewN ?_ _ | refine nw_set ?_ (by first | (simp; done) | (simp; omega) | omega) _)))) HM.out).mono ?_
          rintro e w' ⟨u, rfl, hu, hb⟩
          obtain ⟨p1, c1, hcu⟩ := hu.slice
          rw [HC.out] at hcu
          subst hcu
          obtain ⟨n1, es1, rfl⟩ := below_more hb
          clear hb hu
          go_wp2_with fail
          refine (victim_some _ _ _ (ringL (r + 2)) (ringAges (r + 2) by7) _ (HA1.out.below (by (repeat (first | exact Below.refl _ _ | assumption | refine nw_more ?_ _ _ | refine nw_alloc ?_ _ | refine nw_drew ?_ | refine nw_drewN ?_ _ | refine nw_set ?_ (by first | (simp; done) | (simp; omega) | omega) _)))) (HV.out.below (by (repeat (first | exact Below.refl _ _ | assumption | refine nw_more ?_ _ _ | refine nw_alloc ?_ _ | refine nw_drew ?_ | refine nw_drewN ?_ _ | refine nw_set ?_ (by first | (simp; done) | (simp; omega) | omega) _)))) HM.out HAG.out HAL.out (by rw [HC.out]; omega)).mono ?_
          rw [HY.out]
          (rintro e w' ⟨rfl, hb⟩; obtain ⟨n, es, rfl⟩ := below_more hb; clear hb)
          go_wp2_with (first | (go_at_call 14; refine (num4_any _ _).mono ?_; rintro e w' ⟨rfl, rfl⟩))
          go_roundg (r + 3 - o - 1)
          case measure => omega
          case rel => exact ⟨below_more (by (repeat (first | exact Below.refl _ _ | assumption | refine nw_more ?_ _ _ | refine nw_alloc ?_ _ | refine nw_drew ?_ | refine nw_drewN ?_ _ | refine nw_set ?_ (by first | (simp; done) | (simp; omega) | omega) _))), o + 1, by omega, by omega, by go_num⟩
        · go_wp2_with fail
          go_loopg [14] (r + 3) (fun g s14 wx => (∃ n es, wx = more wr n es) ∧ ∃ c : Nat, c ≤ r + 2 ∧ g + c = r + 3 ∧ s14 = .int .i64 c)
          case atStart => exact ⟨⟨n, es, rfl⟩, 0, by omega, by omega, rfl⟩
          case round =>
            clear hlt2 ho
            obtain ⟨⟨n, es, rfl⟩, c, hc, hg, rfl⟩ := hrel
            obtain rfl : gk = r + 3 - c := by omega
            clear hg
            by_cases hlt3 : c < r + 2
            · go_upto_region 23 with (fail)
              have HWX := Lib.hid (HWA.out.below (show Below wr.heap.size wr (more wr n es) by (repeat (first | exact Below.refl _ _ | assumption | refine nw_more ?_ _ _ | refine nw_alloc ?_ _ | refine nw_drew ?_ | refine nw_drewN ?_ _ | refine nw_set ?_ (by first | (simp; done) | (simp; omega) | omega) _))))
              generalize hwx : more wr n es = wx
              have HWE := Lib.hid hwx
              rw [hwx] at HWX
              clear hwx
              rcases HWX.out.form with ⟨hp0, -⟩ | ⟨qb, qo, qc, rfl, hp, hqc, -, hqb, hcells⟩
              · exact absurd (by rw [← HLN.out, hp0]; rfl) (by omega : ¬ r + 2 = 0)
              · have HCE := Lib.hid hcells
                have c0 : (0 : Int) ≤ (c : Int) := by omega
                have hl := HLN.out
                have c1 : (c : Int) ≤ (qc : Int) := by omega
                have c2 : (c : Int) + 1 ≤ (P.length : Int) := by omega
                have c3 : (P.length : Int) ≤ (qc : Int) := by omega
                clear hcells hl
                have hqL : Lt qb wx.heap.size := hqb
                have hPn : P.length ≤ 100 := by rw [HLN.out]; omega
                go_cut [15] (fun s15 wy => Hid (OwnW wx.heap.size wy s15 (P.eraseIdx c)) ∧ Hid (Below wx.heap.size wx wy))
                case first =>
                  have d1 : IntKind.i64.wrap ((c : Int) + 1) = (c : Int) + 1 := IntWalk.i64_in _ (by omega)
                  have d2 : (0 : Int) ≤ (c : Int) + 1 := by omega
                  have d3 : ((c : Int) + 1).toNat = c + 1 := by omega
                  have d4 : (c : Int) ≤ (c : Int) + 1 := by omega
                  by_cases hqe : qc = c + 1
                  · subst hqe
                    have HPC : Hid (P.length = c + 1) := Lib.hid (by omega)
                    go_region_law (first | (refine step_append_own rfl (.tmp 110) (.tmp 113) _ rfl wx.heap.size 41 i0 (.agg #[.int .i64 0, .slice none 0 0]) 2 32 Try.underlying27 HI.out hz0 hz1 hz2 rfl (by decide) _ 0 [] rfl (own_below (made0 wx) (by (repeat (first | exact Below.refl _ _ | assumption | refine nw_more ?_ _ _ | refine nw_alloc ?_ _ | refine nw_drew ?_ | refine nw_drewN ?_ _ | refine nw_set ?_ (by first | (simp; done) | (simp; omega) | omega) _)))) ⟨qb, qo, none⟩ c _ (wvCells ((P.drop 0).take c)) rfl (part_len (by omega)) (by simpa using cells_sub (fun j hj => by have h := HCE.out j hj; simp [go_sem, h, hqL]) 0 c) (wv_one (fun x hx => HWX.out.2.2 x (part_sub x hx))) (by unfold maxLen; omega) (by omega) (by simp) ?_; intro v1 w1 hown1 hgrow1; have HO1 := Lib.hid hown1; have HG1 : Hid (Below wx.heap.size wx w1) := Lib.hid (below_append (w := wx) (by (repeat (first | exact Below.refl _ _ | assumption | refine nw_more ?_ _ _ | refine nw_alloc ?_ _ | refine nw_drew ?_ | refine nw_drewN ?_ _ | refine nw_set ?_ (by first | (simp; done) | (simp; omega) | omega) _))) (own_below (made0 wx) (by (repeat (first | exact Below.refl _ _ | assumption | refine nw_more ?_ _ _ | refine nw_alloc ?_ _ | refine nw_drew ?_ | refine nw_drewN ?_ _ | refine nw_set ?_ (by first | (simp; done) | (simp; omega) | omega) _)))) hgrow1); clear hown1 hgrow1) | (refine step_append_own rfl (.tmp 114) (.tmp 118) _ rfl wx.heap.size 41 i0 (.agg #[.int .i64 0, .slice none 0 0]) 2 32 Try.underlying27 HI.out hz0 hz1 hz2 rfl (by decide) _ (0 + c) _ rfl HO1.out ⟨qb, qo, none⟩ 0 _ [] rfl rfl (fun j u hj => by simp at hj) (fun u hu => by cases hu) (by unfold maxLen; omega) (by omega) HG1.out.size ?_; intro v2 w2 hown2 hgrow2; have HO2 := Lib.hid (cut_own0 (P := P) HPC.out hown2); have HG2 : Hid (Below wx.heap.size wx w2) := Lib.hid (below_append (w := wx) HG1.out HO1.out hgrow2); clear hown2 hgrow2))
                    go_wp2_with fail
                    go_meet
                    exact ⟨HO2, HG2⟩
                  · go_region_law (first | (refine step_append_own rfl (.tmp 110) (.tmp 113) _ rfl wx.heap.size 41 i0 (.agg #[.int .i64 0, .slice none 0 0]) 2 32 Try.underlying27 HI.out hz0 hz1 hz2 rfl (by decide) _ 0 [] rfl (own_below (made0 wx) (by (repeat (first | exact Below.refl _ _ | assumption | refine nw_more ?_ _ _ | refine nw_alloc ?_ _ | refine nw_drew ?_ | refine nw_drewN ?_ _ | refine nw_set ?_ (by first | (simp; done) | (simp; omega) | omega) _)))) ⟨qb, qo, none⟩ c _ (wvCells ((P.drop 0).take c)) rfl (part_len (by omega)) (by simpa using cells_sub (fun j hj => by have h := HCE.out j hj; simp [go_sem, h, hqL]) 0 c) (wv_one (fun x hx => HWX.out.2.2 x (part_sub x hx))) (by unfold maxLen; omega) (by omega) (by simp) ?_; intro v1 w1 hown1 hgrow1; have HO1 := Lib.hid hown1; have HG1 : Hid (Below wx.heap.size wx w1) := Lib.hid (below_append (w := wx) (by (repeat (first | exact Below.refl _ _ | assumption | refine nw_more ?_ _ _ | refine nw_alloc ?_ _ | refine nw_drew ?_ | refine nw_drewN ?_ _ | refine nw_set ?_ (by first | (simp; done) | (simp; omega) | omega) _))) (own_below (made0 wx) (by (repeat (first | exact Below.refl _ _ | assumption | refine nw_more ?_ _ _ | refine nw_alloc ?_ _ | refine nw_drew ?_ | refine nw_drewN ?_ _ | refine nw_set ?_ (by first | (simp; done) | (simp; omega) | omega) _)))) hgrow1); clear hown1 hgrow1) | (refine step_append_own rfl (.tmp 114) (.tmp 118) _ rfl wx.heap.size 41 i0 (.agg #[.int .i64 0, .slice none 0 0]) 2 32 Try.underlying27 HI.out hz0 hz1 hz2 rfl (by decide) _ (0 + c) _ rfl HO1.out ⟨qb, qo + (c + 1) * 2, none⟩ (P.length - (c + 1)) _ (wvCells ((P.drop (c + 1)).take (P.length - (c + 1)))) rfl (part_len (by omega)) (cells_sub (fun j hj => by have h := HCE.out j hj; rw [HG1.out.cell (p := ⟨qb, qo + j * 2, none⟩) hqb, HG1.out.cell (p := ⟨qb, qo + j * 2 + 1, none⟩) hqb]; exact h) _ _) (wv_one (fun x hx => HWX.out.2.2 x (part_sub x hx))) (by unfold maxLen; omega) (by omega) HG1.out.size ?_; intro v2 w2 hown2 hgrow2; have HO2 := Lib.hid (cut_own (by omega) hown2); have HG2 : Hid (Below wx.heap.size wx w2) := Lib.hid (below_append (w := wx) HG1.out HO1.out hgrow2); clear hown2 hgrow2))
                    go_wp2_with fail
                    go_meet
                    exact ⟨HO2, HG2⟩
                case rest =>
                  obtain ⟨HO2, HG2⟩ := hcut
                  have HAC := Lib.hid (show WaitsAt wc _ (ringCut (r + 2) c) from ⟨P.eraseIdx c, cut_pl HPL.out c, WvAt.own HO2.out (Nat.le_trans (List.length_eraseIdx_le ..) (by omega)) (fun x hx => (HWX.out.2.2 x (cut_sub x hx)).below HG2.out)⟩)
                  have HBX : Hid (Below wr.heap.size wr wx) := Lib.hid (by rw [← HWE.out]; (repeat (first | exact Below.refl _ _ | assumption | refine nw_more ?_ _ _ | refine nw_alloc ?_ _ | refine nw_drew ?_ | refine nw_drewN ?_ _ | refine nw_set ?_ (by first | (simp; done) | (simp; omega) | omega) _)))
                  have HBC : Hid (Below wr.heap.size wr wc) := Lib.hid (nw_trans HBX.out HG2.out)
                  have HVC := Lib.hid (HV.out.below HBC.out)
                  have HMC := Lib.hid (cut_may r hr c hlt3)
                  have HHC := Lib.hid (cut_all r hr by7 hb7 c hlt3)
                  have HCC := Lib.hid (cut_circle r hr c hlt3)
                  clear HO2 HCE HWX HWE HG2 HBX
                  go_wp2_with fail
                  go_loopg [16] (r + 3) (fun g s16 wy => (∃ n es, wy = more wc n es) ∧ ∃ o : Nat, o ≤ r + 2 ∧ g + o = r + 3 ∧ s16 = .int .i64 o)
                  case atStart => exact ⟨below_more (Below.refl _ _), 0, by omega, by omega, rfl⟩
                  case round =>
                    obtain ⟨⟨n2, es2, rfl⟩, o2, ho2, hg2, rfl⟩ := hrel
                    obtain rfl : gk = r + 3 - o2 := by omega
                    clear hg2
                    by_cases hlt4 : o2 < r + 2
                    · have HC := Lib.hid (HCC.out o2 hlt4)
                      go_wp2_with fail
                      refine (Circle_any _ _ (ringCut (r + 2) c) _ (HAC.out.below (by (repeat (first | exact Below.refl _ _ | assumption | refine nw_more ?_ _ _ | refine nw_alloc ?_ _ | refine nw_drew ?_ | refine nw_drewN ?_ _ | refine nw_set ?_ (by first | (simp; done) | (simp; omega) | omega) _)))) HMC.out).mono ?_
                      rintro e w' ⟨u, rfl, hu, hb⟩
                      rw [HC.out] at hu
                      obtain ⟨p1, c1', rfl⟩ := len_nil hu
                      obtain ⟨n1, es1, rfl⟩ := below_more hb
                      clear hb hu
                      go_wp2_with fail
                      refine (victim_none _ _ _ (ringCut (r + 2) c) (ringAges (r + 2) by7) _ (HAC.out.below (by (repeat (first | exact Below.refl _ _ | assumption | refine nw_more ?_ _ _ | refine nw_alloc ?_ _ | refine nw_drew ?_ | refine nw_drewN ?_ _ | refine nw_set ?_ (by first | (simp; done) | (simp; omega) | omega) _)))) (HVC.out.below (by (repeat (first | exact Below.refl _ _ | assumption | refine nw_more ?_ _ _ | refine nw_alloc ?_ _ | refine nw_drew ?_ | refine nw_drewN ?_ _ | refine nw_set ?_ (by first | (simp; done) | (simp; omega) | omega) _)))) HMC.out HAG.out HHC.out HC.out).mono ?_
                      (rintro e w' ⟨rfl, hb⟩; obtain ⟨n, es, rfl⟩ := below_more hb; clear hb)
                      go_wp2_with (first | (go_at_call 14; refine (num4_any _ _).mono ?_; rintro e w' ⟨rfl, rfl⟩))
                      go_roundg (r + 3 - o2 - 1)
                      case measure => omega
                      case rel => exact ⟨below_more (by (repeat (first | exact Below.refl _ _ | assumption | refine nw_more ?_ _ _ | refine nw_alloc ?_ _ | refine nw_drew ?_ | refine nw_drewN ?_ _ | refine nw_set ?_ (by first | (simp; done) | (simp; omega) | omega) _))), o2 + 1, by omega, by omega, by go_num⟩
                    · go_wp2_with fail
                      go_roundg (r + 3 - c - 1)
                      case measure => omega
                      case rel => exact ⟨below_more (nw_trans HBC.out (by (repeat (first | exact Below.refl _ _ | assumption | refine nw_more ?_ _ _ | refine nw_alloc ?_ _ | refine nw_drew ?_ | refine nw_drewN ?_ _ | refine nw_set ?_ (by first | (simp; done) | (simp; omega) | omega) _)))), c + 1, by omega, by omega, by go_num⟩
            · have HBEL := HB
              clear HB
              go_wp2_with (first | (go_at_call 17; refine (wakes4_any _).mono ?_; (rintro e w' ⟨rfl, hb⟩; obtain ⟨n, es, rfl⟩ := below_more hb; clear hb)))
              go_ret
              exact ⟨rfl, by have hbel := HBEL.out; (repeat (first | exact Below.refl _ _ | assumption | refine nw_more ?_ _ _ | refine nw_alloc ?_ _ | refine nw_drew ?_ | refine nw_drewN ?_ _ | refine nw_set ?_ (by first | (simp; done) | (simp; omega) | omega) _))⟩
end Go.Proofs.Ythkpeddgcglpcaa
