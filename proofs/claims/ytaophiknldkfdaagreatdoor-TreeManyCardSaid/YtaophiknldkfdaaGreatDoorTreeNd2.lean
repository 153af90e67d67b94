/- Contract of the page's walk at a node. -/
import Derived.Test.YtaophiknldkfdaaGreatDoorTreeNd
import Derived.Deep.Cut
namespace Go.Proofs.YtaophiknldkfdaaGreatDoor
open Go.RowKit

/-- The walk at a node, f nodes deep at most, does what the plain walk does. -/
def NodeOk {α : Type} (K : Ks α) (P : List (Nv α)) (F : List Int) (w0 : World) (v u : Value) (wb sb : Nat) (r : Int) (f : Nat) : Prop :=
  ∀ (W : World) (s s' : Wk α) (n : Int) (b : Bd α) (d : Nat) (lo hi : ByteArray) (top : Bool), 0 < d → d + f ≤ 1000 → Below w0.heap.size w0 W → WkIn w0.heap.size W wb sb P.length v u r s → s.seen.length = P.length → BdIs K b lo hi top → nodeW K (Tr.mk (ndsOf P) r F) f s n b d = some s' → s'.rows.length ≤ 100000 →
    Calls Tryz.prog 34 #[.pointer (some ⟨wb, 0, none⟩), .int .i64 n, .string lo, .string hi, .bool top, .int .i64 d] W fun e w' => e = .returned (.tuple #[]) ∧ Hid (WkIn w0.heap.size w' wb sb P.length v u r s' ∧ WkStep w0.heap.size wb sb W w')

set_option maxRecDepth 100000 in
set_option maxHeartbeats 8000000 in
theorem node_step {α : Type} (K : Ks α) (P : List (Nv α)) (F : List Int) (B : Nat) (w0 : World) (v u : Value) (wb sb : Nat) (r : Int) (hT : TreeIn K B w0 v u P F) (hwb : w0.heap.size ≤ wb) (hsb : w0.heap.size ≤ sb) (hne : wb ≠ sb) (hsm : ∀ x ∈ P, ∀ q ∈ x.n.rows, q < 100) (f : Nat) (IH : Hid (NodeOk K P F w0 v u wb sb r f)) : NodeOk K P F w0 v u wb sb r (f + 1) := by
  intro W s s' n b d lo hi top hd hdf h0 hw hsl hbd h hrl
  obtain ⟨x, hfit, hcase⟩ := nodeW_parts h
  obtain ⟨k, rfl, hseen, hfree, hxk, hk4, hk2, hrise, harein⟩ := fitsW_parts hfit
  obtain ⟨hck, hklt⟩ := hw.seen hseen
  have HW := Lib.hid hw
  obtain ⟨rv, ys, b1, b2, b3⟩ := hw
  have d0 := b1.cell 0
  have d2 := b1.cell 2
  have d3 := b1.cell 3
  have d6 := b1.cell 6
  have hwl : Lt wb W.heap.size := b1.lt
  simp only [List.getElem?_toArray, List.getElem?_cons_succ, List.getElem?_cons_zero] at d0 d2 d3 d6
  obtain ⟨⟨hPl, ⟨p, cap, hv, hcap, hcells⟩, hnodes⟩, hF⟩ := hT
  subst hv
  have HNB : Hid (numB (k : Int) ((P.length : Int) - 1) = true) := Lib.hid (by unfold numB; simp; omega)
  have HF : Hid (IntsIn B w0 u F) := Lib.hid hF
  have hkP : k < P.length := by omega
  obtain ⟨y, hy⟩ : ∃ y, P[k]? = some y := ⟨_, List.getElem?_eq_getElem hkP⟩
  obtain rfl : y.n = x := by
    have h1 : (ndsOf P)[k]? = some x := hxk
    unfold ndsOf at h1
    rw [List.getElem?_map, hy] at h1
    simpa using h1
  obtain ⟨pb, po, rfl, -, hpb, n0, n1, n2, n3⟩ := hcells k hkP
  have hgy : P.getD k (nil3 α) = y := by rw [List.getD_eq_getElem?_getD, hy]; rfl
  rw [hgy] at n0 n1 n2 n3
  have N0 := Lib.hid n0
  have N1 := Lib.hid n1
  have N2 := Lib.hid n2
  have N3 := Lib.hid n3
  have m0 := (h0.cell (p := ⟨pb, po + k * 4, none⟩) hpb).trans n0
  have m1 := (h0.cell (p := ⟨pb, po + k * 4 + 1, none⟩) hpb).trans n1
  have m2 := (h0.cell (p := ⟨pb, po + k * 4 + 2, none⟩) hpb).trans n2
  have m3 := (h0.cell (p := ⟨pb, po + k * 4 + 3, none⟩) hpb).trans n3
  have hidx : ¬ (0 : Int) ≤ idxL F k := by have := idx_not (l := F) (x := (k : Int)) (by simpa [has] using hfree); omega
  have hkl : (k : Int) < (P.length : Int) := by omega
  have hk0 : (0 : Int) ≤ (k : Int) := by omega
  have hpl : Lt pb W.heap.size := Nat.lt_of_lt_of_le hpb h0.size
  have hslt : Lt sb W.heap.size := b2.lt
  have f3 := b2.free k
  have HX := Lib.hid (hnodes y (List.mem_of_getElem? hy))
  have HCASE := Lib.hid hcase
  have H0 := Lib.hid h0
  have HB2 := Lib.hid b2
  have HRISE := Lib.hid hrise
  have HIN := Lib.hid harein
  have HSM := Lib.hid (hsm y (List.mem_of_getElem? hy))
  have hw1 : IntKind.i64.wrap ((P.length : Int) - 1) = (P.length : Int) - 1 := IntWalk.i64_in _ (by omega)
  clear hcase hnodes hcells b1 b2 b3 hfit h n0 n1 n2 n3 hrise harein hfree hxk hF
  go_enter Tryz.func34, Tryz.ntmps34
  go_upto_region 3 with (first
    | (go_at_call 32; refine (numB_any _ _ _).mono ?_; rw [HNB.out]; rintro e w' ⟨rfl, rfl⟩)
    | (go_at_call 35; refine (in_any _ _ F _ (HF.out.stays (Stays.of H0.out)).toAt).mono ?_; rintro e w' ⟨rfl, rfl⟩))
  refine wcut (fun W1 => Hid (WkIn w0.heap.size W1 wb sb P.length (.slice (some ⟨pb, po, none⟩) P.length cap) u r ⟨s.seen.set k true, s.deep, s.rows⟩) ∧ Hid (WkStep w0.heap.size wb sb W W1)) ?_ ?_
  · obtain ⟨g1, g2⟩ := HW.out.mark hsb hne k
    exact ⟨Lib.hid g1, Lib.hid g2⟩
  clear HW d0 d2 d3 d6 hwl hck m0 m1 m2 m3 hslt f3 HB2 hpl
  rintro W1 ⟨HW1, HS1⟩
  have HW1b := HW1
  have HB1 : Hid (Below w0.heap.size w0 W1) := Lib.hid (H0.out.trans HS1.out.below)
  obtain ⟨rv, ys, b1, b2, b3⟩ := HW1.out
  have d0 := b1.cell 0
  have hwl : Lt wb W1.heap.size := b1.lt
  simp only [List.getElem?_toArray, List.getElem?_cons_zero] at d0
  have m0 := (HB1.out.cell (p := ⟨pb, po + k * 4, none⟩) hpb).trans N0.out
  have m1 := (HB1.out.cell (p := ⟨pb, po + k * 4 + 1, none⟩) hpb).trans N1.out
  have m2 := (HB1.out.cell (p := ⟨pb, po + k * 4 + 2, none⟩) hpb).trans N2.out
  have m3 := (HB1.out.cell (p := ⟨pb, po + k * 4 + 3, none⟩) hpb).trans N3.out
  have hpl : Lt pb W1.heap.size := Nat.lt_of_lt_of_le hpb HB1.out.size
  clear b1 b2 b3
  obtain ⟨kp, kc, hkv, hkle, hkat⟩ := HX.out.1.at
  obtain ⟨rp, rc, hrv, -⟩ := HX.out.2.1.at
  obtain ⟨cp, cc, hcv, hcle, hcat⟩ := HX.out.2.2.at
  rw [hkv] at m0
  rw [hrv] at m1
  rw [hcv] at m2
  have HKV := Lib.hid hkv
  have HRV := Lib.hid hrv
  have HCV := Lib.hid hcv
  have HKAT := Lib.hid hkat
  have HCAT := Lib.hid hcat
  clear hkv hrv hcv hkat hcat
  go_upto_region 4 with (fail)
  refine wcut (fun W2 => Hid (WkIn w0.heap.size W2 wb sb P.length (.slice (some ⟨pb, po, none⟩) P.length cap) u r ⟨s.seen.set k true, s.deep, s.rows⟩) ∧ Hid (WkStep w0.heap.size wb sb W W2) ∧ Hid (Blc W2 W1.heap.size 53 #[.slice kp y.n.keys.length kc, .slice rp y.n.rows.length rc, .slice cp y.n.kids.length cc, .bool y.n.leaf])) ?_ ?_
  · have hbel : Below W1.heap.size W1 (W1.alloc (Obj.cells #[.slice kp y.n.keys.length kc, .slice rp y.n.rows.length rc, .slice cp y.n.kids.length cc, .bool y.n.leaf] 53)) := nw_alloc (Below.refl _ _) _
    exact ⟨Lib.hid (HW1.out.below hbel), Lib.hid (HS1.out.trans (WkStep.of HB1.out.size hbel)), Lib.hid (Blc.new W1 _ _)⟩
  clear HW1 hwl d0 m0 m1 m2 m3 hpl
  rintro W2 ⟨HW2, HS2, HB3⟩
  have x0 := HB3.out.cell 0
  have x1 := HB3.out.cell 1
  have x2 := HB3.out.cell 2
  have x3 := HB3.out.cell 3
  have hxl : Lt W1.heap.size W2.heap.size := HB3.out.lt
  simp only [List.getElem?_toArray, List.getElem?_cons_succ, List.getElem?_cons_zero] at x0 x1 x2 x3
  have hlo : ¬ (4 : Int) < (y.n.keys.length : Int) := by omega
  have HBD := Lib.hid hbd
  obtain ⟨hbd1, hbd2, hbd3⟩ := hbd
  have HBD1 := Lib.hid hbd1
  have HBD2 := Lib.hid hbd2
  have HBD3 := Lib.hid hbd3
  clear hbd1 hbd2 hbd3
  go_upto_if 72 with (fail)
  go_cut [13] (fun s13 wx => ∃ L : Nat, s13 = .int .i64 L ∧ L ≤ y.n.keys.length ∧ W2 = wx)
  case first =>
    by_cases hd1 : d = 1
    · subst hd1
      have hd1b : (((1 : Nat) : Int) == 1) = true := rfl
      go_wp2
      go_meet
      exact ⟨0, rfl, Nat.zero_le _, rfl⟩
    · have hd1b : ((d : Int) == 1) = false := beq_eq_false_iff_ne.2 (by omega)
      have hd1c : ¬ (d : Int) = 1 := by omega
      go_wp2
      go_meet
      exact ⟨2, rfl, by omega, rfl⟩
  case rest =>
  obtain ⟨LL, rfl, hLL, rfl⟩ := hcut
  have hle : ¬ (y.n.keys.length : Int) < (LL : Int) := by omega
  have HBW : Hid (Below w0.heap.size w0 W2) := Lib.hid (H0.out.trans HS2.out.below)
  go_upto_region 10 with (fail)
  go_loopg [14] (y.n.keys.length + 1) (fun g s14 wx => (∃ m es, wx = more W2 m es) ∧ ∃ j : Nat, j ≤ y.n.keys.length ∧ g + j = y.n.keys.length + 1 ∧ s14 = .int .i64 j)
  case atStart => exact ⟨below_more (Below.refl _ _), 0, Nat.zero_le _, by omega, rfl⟩
  case round =>
    obtain ⟨⟨m, es, rfl⟩, j, hj, hgj, rfl⟩ := hrel
    obtain rfl : gk = y.n.keys.length + 1 - j := by omega
    clear hgj
    by_cases hlt : j < y.n.keys.length
    · obtain ⟨kb, ko, kx, ekp, hkb, hkc, -, hkx⟩ := HKAT.out j hlt
      subst ekp
      have m1 := (HBW.out.cell (p := ⟨kb, ko + j, none⟩) hkb).trans hkc
      have hkb2 : Lt kb W2.heap.size := Nat.lt_of_lt_of_le hkb HBW.out.size
      have hlt2 : (j : Int) < (y.n.keys.length : Int) := by omega
      have hin := areInB_at HIN.out hkx
      unfold inB at hin
      simp only [Bool.and_eq_true] at hin
      have hlow : lessB (K.s kx) lo = false := by rw [HBD1.out, lo_less, hin.1]; rfl
      have HHI : Hid (top = false → lessB (K.s kx) hi = true) := Lib.hid (fun e => by
        have h2 := HBD3.out
        rw [e] at h2
        cases hb2 : b.2 with
        | none => rw [hb2] at h2; cases h2
        | some h =>
          rw [HBD2.out, hb2, hi_less]
          rw [hb2] at hin
          exact hin.2)
      clear hin hkc hkb
      by_cases hj0 : j = 0
      · subst hj0
        simp only [Nat.add_zero] at m1
        clear hkx
        cases top
        · have hhi := HHI.out rfl
          go_wp2_with fail
          (refine wp_region_quiet_more (by kernel_rfl) (by kernel_rfl) ?_; (repeat (first | go_big_quiet_skip | quiet_step ((first | fail)))); refine wpQuiet_nil ?_; intro _ hw'; obtain ⟨⟨nq, esq⟩, hw''⟩ := hw'; subst hw''; dsimp only)
          go_wp2
          go_roundg (y.n.keys.length + 1 - 0 - 1)
          case measure => omega
          case rel => exact ⟨below_more (by (repeat (first | exact Below.refl _ _ | assumption | refine nw_more ?_ _ _ | refine nw_alloc ?_ _ | refine nw_drew ?_ | refine nw_drewN ?_ _ | refine nw_set ?_ (by first | (simp; done) | (simp; omega) | omega) _))), 0 + 1, by omega, by omega, by go_num⟩
        ·
          go_wp2_with fail
          (refine wp_region_quiet_more (by kernel_rfl) (by kernel_rfl) ?_; (repeat (first | go_big_quiet_skip | quiet_step ((first | fail)))); refine wpQuiet_nil ?_; intro _ hw'; obtain ⟨⟨nq, esq⟩, hw''⟩ := hw'; subst hw''; dsimp only)
          go_wp2
          go_roundg (y.n.keys.length + 1 - 0 - 1)
          case measure => omega
          case rel => exact ⟨below_more (by (repeat (first | exact Below.refl _ _ | assumption | refine nw_more ?_ _ _ | refine nw_alloc ?_ _ | refine nw_drew ?_ | refine nw_drewN ?_ _ | refine nw_set ?_ (by first | (simp; done) | (simp; omega) | omega) _))), 0 + 1, by omega, by omega, by go_num⟩
      · obtain ⟨i, hji⟩ : ∃ i, j = i + 1 := ⟨j - 1, by omega⟩
        obtain ⟨kb', ko', px, ekp, -, hpc, -, hpx⟩ := HKAT.out i (by omega)
        simp only [Option.some.injEq, Addr.mk.injEq, and_true] at ekp
        obtain ⟨rfl, rfl⟩ := ekp
        have p1 := (HBW.out.cell (p := ⟨kb, ko + i, none⟩) (by have := hkb2.out; obtain ⟨kb2, ko2, px2, ekp2, hkb3, -⟩ := HKAT.out i (by omega); simp only [Option.some.injEq, Addr.mk.injEq, and_true] at ekp2; rw [ekp2.1]; exact hkb3)).trans hpc
        have hprev : lessB (K.s px) (K.s kx) = true := by
          rw [K.hlt]
          exact riseB_at HRISE.out hpx (by rw [← hji]; exact hkx)
        have w1 : IntKind.i64.wrap ((j : Int) - 1) = (i : Int) := by rw [IntWalk.i64_in _ (by omega)]; omega
        have hi2 : (i : Int) < (y.n.keys.length : Int) := by omega
        have hj1 : (0 : Int) < (j : Int) := by omega
        have hj2 : 0 < j := by omega
        have hdj : decide ((0 : Int) < (j : Int)) = true := decide_eq_true hj1
        have hdj2 : decide (0 < j) = true := decide_eq_true hj2
        have HJI := Lib.hid hji
        clear hkx hpx hpc hji
        cases top
        · have hhi := HHI.out rfl
          go_wp2_with fail
          (refine wp_region_quiet_more (by kernel_rfl) (by kernel_rfl) ?_; (repeat (first | go_big_quiet_skip | quiet_step ((first | fail)))); refine wpQuiet_nil ?_; intro _ hw'; obtain ⟨⟨nq, esq⟩, hw''⟩ := hw'; subst hw''; dsimp only)
          go_wp2
          go_roundg (y.n.keys.length + 1 - j - 1)
          case measure => omega
          case rel => exact ⟨below_more (by (repeat (first | exact Below.refl _ _ | assumption | refine nw_more ?_ _ _ | refine nw_alloc ?_ _ | refine nw_drew ?_ | refine nw_drewN ?_ _ | refine nw_set ?_ (by first | (simp; done) | (simp; omega) | omega) _))), j + 1, by omega, by omega, by go_num⟩
        ·
          go_wp2_with fail
          (refine wp_region_quiet_more (by kernel_rfl) (by kernel_rfl) ?_; (repeat (first | go_big_quiet_skip | quiet_step ((first | fail)))); refine wpQuiet_nil ?_; intro _ hw'; obtain ⟨⟨nq, esq⟩, hw''⟩ := hw'; subst hw''; dsimp only)
          go_wp2
          go_roundg (y.n.keys.length + 1 - j - 1)
          case measure => omega
          case rel => exact ⟨below_more (by (repeat (first | exact Below.refl _ _ | assumption | refine nw_more ?_ _ _ | refine nw_alloc ?_ _ | refine nw_drew ?_ | refine nw_drewN ?_ _ | refine nw_set ?_ (by first | (simp; done) | (simp; omega) | omega) _))), j + 1, by omega, by omega, by go_num⟩
    · have hjL : j = y.n.keys.length := by omega
      subst hjL
      have hnlt : ¬ (y.n.keys.length : Int) < (y.n.keys.length : Int) := by omega
      have HWk : Hid (WkIn w0.heap.size (more W2 m es) wb sb P.length (.slice (some ⟨pb, po, none⟩) P.length cap) u r ⟨s.seen.set k true, s.deep, s.rows⟩) := Lib.hid (HW2.out.below (by (repeat (first | exact Below.refl _ _ | assumption | refine nw_more ?_ _ _ | refine nw_alloc ?_ _ | refine nw_drew ?_ | refine nw_drewN ?_ _ | refine nw_set ?_ (by first | (simp; done) | (simp; omega) | omega) _))))
      have HSk : Hid (WkStep w0.heap.size wb sb W (more W2 m es)) := Lib.hid (HS2.out.trans (WkStep.of HBW.out.size (by (repeat (first | exact Below.refl _ _ | assumption | refine nw_more ?_ _ _ | refine nw_alloc ?_ _ | refine nw_drew ?_ | refine nw_drewN ?_ _ | refine nw_set ?_ (by first | (simp; done) | (simp; omega) | omega) _)))))
      have HBk : Hid (Below w0.heap.size w0 (more W2 m es)) := Lib.hid (H0.out.trans HSk.out.below)
      have HXk : Hid (Blc (more W2 m es) W1.heap.size 53 #[.slice kp y.n.keys.length kc, .slice rp y.n.rows.length rc, .slice cp y.n.kids.length cc, .bool y.n.leaf]) := Lib.hid (HB3.out.mre _ _)
      rcases HCASE.out with ⟨hlf, hleaf⟩ | ⟨hlf, hr0, hkpos, hkl, hfold⟩
      · have HLA := Lib.hid (leaf_any K B wb sb P.length w0 (more W2 m es) _ u r _ s' y d HBk.out HX.out HWk.out hwb hne hd HSM.out (Nat.le_trans (leafW_grew hleaf).2 hrl) (by omega) hleaf)
        rw [HKV.out, HRV.out, HCV.out] at HLA
        clear hleaf
        rw [hlf] at x3 HLA
        go_wp2_with fail
        refine HLA.out.mono ?_
        rintro e w' ⟨rfl, hfin⟩
        go_wp2
        refine bodyPost_ret (results_none rfl _ _ _) rfl ?_
        exact ⟨rfl, Lib.hid ⟨hfin.out.1, HSk.out.trans hfin.out.2⟩⟩
      · have HFO := Lib.hid hfold
        have HHL := Lib.hid hkl
        rw [hlf] at x3 HXk
        have hr0' : ¬ (0 : Int) < (y.n.rows.length : Int) := by omega
        have hk0' : ¬ (y.n.keys.length : Int) = 0 := by omega
        have hk0b : ((y.n.keys.length : Int) == 0) = false := beq_eq_false_iff_ne.2 (by omega)
        have hw2 : IntKind.i64.wrap ((y.n.keys.length : Int) + 1) = (y.n.keys.length : Int) + 1 := IntWalk.i64_in _ (by omega)
        have hkl' : (y.n.kids.length : Int) = (y.n.keys.length : Int) + 1 := by omega
        have hxw : W1.heap.size ≠ wb := by obtain ⟨_, _, b1, -, -⟩ := HW1b.out; have := b1.lt; omega
        have hxs : W1.heap.size ≠ sb := by obtain ⟨_, _, -, b2, -⟩ := HW1b.out; have := b2.lt; omega
        clear hfold hkl
        go_upto_region 19 with (fail)
        go_loopg [15] (y.n.kids.length + 1) (fun g s15 wr => ∃ i : Nat, i ≤ y.n.kids.length ∧ g + i = y.n.kids.length + 1 ∧ s15 = .int .i64 i ∧ Hid (∃ s2, foldW (fun s2 m b2 => nodeW K (Tr.mk (ndsOf P) r F) f s2 m b2 (d + 1)) ⟨s.seen.set k true, s.deep, s.rows⟩ ((kidsB b.2 b.1 y.n.kids y.n.keys).take i) = some s2 ∧ foldW (fun s2 m b2 => nodeW K (Tr.mk (ndsOf P) r F) f s2 m b2 (d + 1)) s2 ((kidsB b.2 b.1 y.n.kids y.n.keys).drop i) = some s' ∧ WkIn w0.heap.size wr wb sb P.length (.slice (some ⟨pb, po, none⟩) P.length cap) u r s2 ∧ WkStep w0.heap.size wb sb W wr ∧ Blc wr W1.heap.size 53 #[.slice kp y.n.keys.length kc, .slice rp y.n.rows.length rc, .slice cp y.n.kids.length cc, .bool false]))
        case atStart => exact ⟨0, Nat.zero_le _, by omega, rfl, Lib.hid ⟨_, by simp [foldW], HFO.out, HWk.out, HSk.out, HXk.out⟩⟩
        case round =>
          obtain ⟨i, hiK, hgi, rfl, HREL⟩ := hrel
          obtain rfl : gk = y.n.kids.length + 1 - i := by omega
          clear hgi x0 x1 x2 x3 hxl
          obtain ⟨s2, ht2, hf2, hwr, hsr, hxr⟩ := HREL.out
          have HWr := Lib.hid hwr
          have HSr := Lib.hid hsr
          have HX3 := Lib.hid hxr
          have HBr : Hid (Below w0.heap.size w0 wr) := Lib.hid (H0.out.trans hsr.below)
          have x0 := hxr.cell 0
          have x2 := hxr.cell 2
          have hxl : Lt W1.heap.size wr.heap.size := hxr.lt
          simp only [List.getElem?_toArray, List.getElem?_cons_succ, List.getElem?_cons_zero] at x0 x2
          clear HREL hwr hsr hxr
          by_cases hlt : i < y.n.kids.length
          · obtain ⟨cb, co, mk, ecp, hcb, hcc, -, hcx⟩ := HCAT.out i hlt
            subst ecp
            have hmem := kidsB_at b.2 b.1 y.n.kids y.n.keys i mk hcx (by omega)
            generalize hbb : ((match i with | 0 => b.1 | j + 1 => y.n.keys[j]?), (match y.n.keys[i]? with | some k => some k | none => b.2)) = bb at hmem
            have hdrop : (kidsB b.2 b.1 y.n.kids y.n.keys).drop i = (mk, bb) :: (kidsB b.2 b.1 y.n.kids y.n.keys).drop (i + 1) := by
              have hl := (List.getElem?_eq_some_iff.1 hmem)
              obtain ⟨hl1, hl2⟩ := hl
              rw [List.drop_eq_getElem_cons hl1, hl2]
            rw [hdrop] at hf2
            obtain ⟨s3, hn3, hf3⟩ := foldW_head hf2
            have htake : foldW (fun s2 m b2 => nodeW K (Tr.mk (ndsOf P) r F) f s2 m b2 (d + 1)) ⟨s.seen.set k true, s.deep, s.rows⟩ ((kidsB b.2 b.1 y.n.kids y.n.keys).take (i + 1)) = some s3 := by
              rw [List.take_add_one, hmem]
              exact foldW_snoc ht2 hn3
            have HT3 := Lib.hid htake
            have HF3 := Lib.hid hf3
            have HN3 := Lib.hid hn3
            have HSL : Hid (s2.seen.length = P.length) := Lib.hid (by
              rw [(foldW_grew (fun s n b s' h => nodeW_grew f h) ht2).1]
              simpa using hsl)
            have HR3 : Hid (s3.rows.length ≤ 100000) := Lib.hid (Nat.le_trans (foldW_grew (fun s n b s' h => nodeW_grew f h) hf3).2 hrl)
            have m2 := (HBr.out.cell (p := ⟨cb, co + i, none⟩) hcb).trans hcc
            have hcb2 : Lt cb wr.heap.size := Nat.lt_of_lt_of_le hcb HBr.out.size
            have hlt2 : (i : Int) < (y.n.kids.length : Int) := by omega
            have hw3 : IntKind.i64.wrap ((d : Int) + 1) = (d : Int) + 1 := IntWalk.i64_in _ (by omega)
            have HBB := Lib.hid hbb
            clear ht2 hf2 hmem hdrop hn3 hf3 htake hcc hcx hbb hcb
            by_cases hiL : i < y.n.keys.length
            · obtain ⟨kb, ko, kx, ekp, hkb, hkc, -, hkx⟩ := HKAT.out i hiL
              subst ekp
              have m1 := (HBr.out.cell (p := ⟨kb, ko + i, none⟩) hkb).trans hkc
              have hkb2 : Lt kb wr.heap.size := Nat.lt_of_lt_of_le hkb HBr.out.size
              have hiL2 : (i : Int) < (y.n.keys.length : Int) := by omega
              clear hkc hkb
              by_cases hi0 : i = 0
              · subst hi0
                have HBDK : Hid (BdIs K bb lo (K.s kx) false) := Lib.hid (by
                  rw [← HBB.out, hkx]
                  exact ⟨HBD1.out, rfl, rfl⟩)
                clear hkx
                simp only [Nat.add_zero] at m1 m2
                go_wp2_with fail
                refine (IH.out wr s2 s3 mk bb (d + 1) _ _ _ (by omega) (by omega) HBr.out HWr.out HSL.out HBDK.out HN3.out HR3.out).mono ?_
                rintro e w' ⟨rfl, hfin⟩
                go_wp2
                go_roundg (y.n.kids.length + 1 - 0 - 1)
                case measure => omega
                case rel =>
                  refine ⟨0 + 1, by omega, by omega, by go_num, Lib.hid ⟨s3, HT3.out, HF3.out, hfin.out.1, HSr.out.trans hfin.out.2, ?_⟩⟩
                  exact hfin.out.2.blc _ _ _ HX3.out hxw hxs (by decide)
              · obtain ⟨q, hqi⟩ : ∃ q, i = q + 1 := ⟨i - 1, by omega⟩
                obtain ⟨kb', ko', px, ekp, hpb', hpc, -, hpx⟩ := HKAT.out q (by omega)
                simp only [Option.some.injEq, Addr.mk.injEq, and_true] at ekp
                obtain ⟨rfl, rfl⟩ := ekp
                have p1 := (HBr.out.cell (p := ⟨kb, ko + q, none⟩) hpb').trans hpc
                have HBDK : Hid (BdIs K bb (K.s px) (K.s kx) false) := Lib.hid (by
                  rw [← HBB.out, hkx]
                  subst hqi
                  exact ⟨by show K.s px = loS K y.n.keys[q]?; rw [hpx]; rfl, rfl, rfl⟩)
                have w1 : IntKind.i64.wrap ((i : Int) - 1) = (q : Int) := by rw [IntWalk.i64_in _ (by omega)]; omega
                have w1' : (i : Int) - 1 = (q : Int) := by omega
                have hq2 : (q : Int) < (y.n.keys.length : Int) := by omega
                have hi1 : (0 : Int) < (i : Int) := by omega
                have hi2 : 0 < i := by omega
                have HQI := Lib.hid hqi
                clear hkx hpx hpc hpb' hqi
                go_wp2_with fail
                refine (IH.out wr s2 s3 mk bb (d + 1) _ _ _ (by omega) (by omega) HBr.out HWr.out HSL.out HBDK.out HN3.out HR3.out).mono ?_
                rintro e w' ⟨rfl, hfin⟩
                go_wp2
                go_roundg (y.n.kids.length + 1 - i - 1)
                case measure => omega
                case rel =>
                  refine ⟨i + 1, by omega, by omega, by go_num, Lib.hid ⟨s3, HT3.out, HF3.out, hfin.out.1, HSr.out.trans hfin.out.2, ?_⟩⟩
                  exact hfin.out.2.blc _ _ _ HX3.out hxw hxs (by decide)
            · have hiL2 : ¬ (i : Int) < (y.n.keys.length : Int) := by omega
              obtain ⟨q, hqi⟩ : ∃ q, i = q + 1 := ⟨i - 1, by omega⟩
              obtain ⟨kb, ko, px, ekp, hpb', hpc, -, hpx⟩ := HKAT.out q (by omega)
              subst ekp
              have hkb2 : Lt kb wr.heap.size := Nat.lt_of_lt_of_le hpb' HBr.out.size
              have p1 := (HBr.out.cell (p := ⟨kb, ko + q, none⟩) hpb').trans hpc
              have HBDK : Hid (BdIs K bb (K.s px) hi top) := Lib.hid (by
                have hn : y.n.keys[i]? = none := List.getElem?_eq_none (by omega)
                rw [← HBB.out, hn]
                subst hqi
                exact ⟨by show K.s px = loS K y.n.keys[q]?; rw [hpx]; rfl, HBD2.out, HBD3.out⟩)
              have w1 : IntKind.i64.wrap ((i : Int) - 1) = (q : Int) := by rw [IntWalk.i64_in _ (by omega)]; omega
              have w1' : (i : Int) - 1 = (q : Int) := by omega
              have hq2 : (q : Int) < (y.n.keys.length : Int) := by omega
              have hi1 : (0 : Int) < (i : Int) := by omega
              have hi2 : 0 < i := by omega
              have HQI := Lib.hid hqi
              clear hpx hpc hpb' hqi
              go_wp2_with fail
              refine (IH.out wr s2 s3 mk bb (d + 1) _ _ _ (by omega) (by omega) HBr.out HWr.out HSL.out HBDK.out HN3.out HR3.out).mono ?_
              rintro e w' ⟨rfl, hfin⟩
              go_wp2
              go_roundg (y.n.kids.length + 1 - i - 1)
              case measure => omega
              case rel =>
                refine ⟨i + 1, by omega, by omega, by go_num, Lib.hid ⟨s3, HT3.out, HF3.out, hfin.out.1, HSr.out.trans hfin.out.2, ?_⟩⟩
                exact hfin.out.2.blc _ _ _ HX3.out hxw hxs (by decide)
          · have hiE : i = y.n.kids.length := by omega
            have hnlt2 : ¬ (i : Int) < (y.n.kids.length : Int) := by omega
            have HEND : Hid (WkIn w0.heap.size wr wb sb P.length (.slice (some ⟨pb, po, none⟩) P.length cap) u r s') := Lib.hid (by
              rw [hiE, List.drop_of_length_le (by rw [kidsB_length]; exact Nat.le_refl _)] at hf2
              simp only [foldW, Option.some.injEq] at hf2
              rw [← hf2]
              exact HWr.out)
            clear ht2 hf2
            go_wp2
            go_end0
            exact ⟨rfl, Lib.hid ⟨HEND.out, HSr.out⟩⟩

theorem node_any {α : Type} (K : Ks α) (P : List (Nv α)) (F : List Int) (B : Nat) (w0 : World) (v u : Value) (wb sb : Nat) (r : Int) (hT : TreeIn K B w0 v u P F) (hwb : w0.heap.size ≤ wb) (hsb : w0.heap.size ≤ sb) (hne : wb ≠ sb) (hsm : ∀ x ∈ P, ∀ q ∈ x.n.rows, q < 100) (f : Nat) : NodeOk K P F w0 v u wb sb r f := by
  induction f with
  | zero =>
    intro W s s' n b d lo hi top _ _ _ _ _ _ h _
    simp [nodeW] at h
  | succ f ih => exact node_step K P F B w0 v u wb sb r hT hwb hsb hne hsm f (Lib.hid ih)
end Go.Proofs.YtaophiknldkfdaaGreatDoor
