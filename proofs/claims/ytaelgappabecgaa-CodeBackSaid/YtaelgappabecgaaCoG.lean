/- Contract: a record's sectors. No condition. -/
import Derived.Test.YtaelgappabecgaaCoD
import Derived.Test.YtaelgappabecgaaCoF2
import Derived.Laws.IdiomStrings
namespace Go.Proofs.Ytaelgappabecgaa
open Go.RowKit

/-- Bytes in memory as a text. -/
theorem conv_bs (X : World) (g off cap : Nat) (L : List UInt8) (hc : ∀ j (hj : j < L.length), X.cell? ⟨g, off + j, none⟩ = some (.int .u8 (L[j].toNat : Int))) :
    (convert 41 9 (.slice (some ⟨g, off, none⟩) L.length cap)).run Try.prog X = .ok (.string (toB L)) X :=
  run_convert_bytes_back X 41 9 5 ⟨g, off, none⟩ cap L Try.underlying41 Try.underlying5 Try.underlying9 (fun j hj => by rw [add_none]; exact hc j hj)
theorem part_eq (l : List UInt8) (k : Nat) : (part l k).length = min 20 (l.length - 20 * k) := by
  unfold part; rw [List.length_take, List.length_drop]
theorem part_at (l : List UInt8) (k j : Nat) (h : j < (part l k).length) : ∃ h2 : 20 * k + j < l.length, (part l k)[j] = l[20 * k + j] := by
  have h1 := part_eq l k
  refine ⟨by omega, ?_⟩
  simp [part]
theorem secs_take_succ (l : List UInt8) (run n k : Nat) (h : k < nParts l) : (secs l run n).take (k + 1) = (secs l run n).take k ++ [secAt l run n k] := by
  rw [List.take_add_one, secs_at l run n k h]; rfl

set_option maxRecDepth 100000 in
set_option maxHeartbeats 16000000 in
theorem sectorsOf_any (w : World) (c : Int) (v : Value) (l : List Wr) (run n : Nat) (h : WsAt w v l) (hok : rOk c l = true) (hr : run ≤ 1073741824) (hn : n ≤ 1073741824) :
    Calls Try.prog 20 #[.agg #[.int .i64 c, v], .int .i64 run, .int .i64 n] w fun e w' => ∃ u, e = .returned u ∧ OwnS w.heap.size w' u (secs (rBytes c l) run n) ∧ Below w.heap.size w w' := by
  obtain ⟨i0, hi, hz0, hz1, hz2⟩ := info_parts info_string
  have HI := Lib.hid hi
  obtain ⟨p, cap, rfl, hcap⟩ := h.slice
  have H := Lib.hid h
  have HOK := Lib.hid hok
  have hbl := rBytes_len hok
  generalize hL : rBytes c l = L at *
  have HL := Lib.hid hL
  clear h hok hi hL
  go_enter Try.func20, Try.ntmps20
  go_wp2_with fail
  refine (bytesOf_any _ c _ l (H.out.below (by (repeat (first | exact Below.refl _ _ | assumption | refine nw_more ?_ _ _ | refine nw_alloc ?_ _ | refine nw_drew ?_ | refine nw_drewN ?_ _ | refine nw_set ?_ (by first | (simp; done) | (simp; omega) | omega) _)))) HOK.out).mono ?_
  rw [HL.out]
  rintro e w1 ⟨u1, rfl, h1, hb1⟩
  have hbe1 : Below w.heap.size w w1 := nw_trans (by (repeat (first | exact Below.refl _ _ | assumption | refine nw_more ?_ _ _ | refine nw_alloc ?_ _ | refine nw_drew ?_ | refine nw_drewN ?_ _ | refine nw_set ?_ (by first | (simp; done) | (simp; omega) | omega) _))) hb1
  have hz1w : w.heap.size + 1 ≤ w1.heap.size := by have := hb1.size; simpa using this
  rcases h1.form with ⟨e0, -⟩ | ⟨g, gc, rfl, hgc, -, hg1, hgb⟩
  · rw [e0] at hbl; simp at hbl
  have HG := Lib.hid hgb
  have HBE1 := Lib.hid hbe1
  clear h1 hb1 hbe1 hgb
  go_wp2_with fail
  refine (chunk_any _ _ _ _).mono ?_
  rintro e w' ⟨rfl, rfl⟩
  go_wp2_with fail
  refine (collect_any _ w1.heap.size (w1.heap.size + 1) g gc L.length (by omega) hgc (by simp; omega) (by simp) (by simp [go_sem]) (by simp [go_sem])).mono ?_
  rintro e w2 ⟨pu, rfl, hp, hb2⟩
  have hb12 : Below w1.heap.size w1 w2 := nw_trans (by (repeat (first | exact Below.refl _ _ | assumption | refine nw_more ?_ _ _ | refine nw_alloc ?_ _ | refine nw_drew ?_ | refine nw_drewN ?_ _ | refine nw_set ?_ (by first | (simp; done) | (simp; omega) | omega) _))) hb2
  have hM : 0 < nParts L := by unfold nParts; omega
  have hM2 : nParts L ≤ 1000 := by unfold nParts; omega
  have hMe : (L.length + 19) / 20 = nParts L := rfl
  rw [hMe] at hp
  obtain ⟨pg, pc, pcur, rfl, -, hpg, hpc, -⟩ := hp.2.resolve_left (fun e => by omega)
  have HP : Hid (∀ k, k < nParts L → w2.cell? ⟨pg, k, none⟩ = some (.slice (some ⟨g, 20 * k, none⟩) (part L k).length (part L k).length)) := Lib.hid (fun k hk => by
    have := World.ownsRow.cellAt hp k (by rw [Nat.mul_one]; exact hk)
    rw [this, part_eq]
    simp [partVals, partVal, hk])
  have hpl : Lt pg w2.heap.size := (Array.getElem?_eq_some_iff.1 hpg).1
  have HG2 : Hid (∀ k, k < nParts L → ∀ j (hj : j < (part L k).length), w2.cell? ⟨g, 20 * k + j, none⟩ = some (.int .u8 ((part L k)[j].toNat : Int))) := Lib.hid (fun k hk j hj => by
    obtain ⟨h2, e⟩ := part_at L k j hj
    rw [hb12.cell (p := ⟨g, 20 * k + j, none⟩) hg1.out, HG.out _ h2, e])
  have hg2 : Lt g w2.heap.size := Nat.lt_of_lt_of_le hg1.out hb12.size
  have HBE2 : Hid (Below w.heap.size w w2) := Lib.hid (HBE1.out.trans (hb12.mono (by omega)))
  have hz2w : w.heap.size ≤ w2.heap.size := HBE2.out.size
  generalize hMM : nParts L = M at *
  have HM := Lib.hid hMM
  clear hp hb2 hb12 hpg HG HBE1 hMe hMM hg1 H HOK HL
  go_wp2_with fail
  go_loopg [18, 8] (M + 1) (fun g1 s18 s8 wr => ∃ (k : Nat) (u : Value), k ≤ M ∧ g1 + k = M + 1 ∧ s18 = .int .i64 k ∧ s8 = u ∧ Hid (OwnS w2.heap.size wr u ((secs L run n).take k)) ∧ Hid (Below w2.heap.size w2 wr))
  case atStart => exact ⟨0, .slice none 0 0, Nat.zero_le _, rfl, rfl, rfl, Lib.hid (OwnS.nil _ _), Lib.hid (Below.refl _ _)⟩
  case round =>
    obtain ⟨k, u, hk, hg, rfl, rfl, HO, HB⟩ := hrel
    obtain rfl : gk = M + 1 - k := by omega
    clear hg
    by_cases hlt : k < M
    · have hkl : (k : Int) < (M : Int) := by omega
      have hc0 : wr.cell? ⟨pg, k, none⟩ = some (.slice (some ⟨g, 20 * k, none⟩) (part L k).length (part L k).length) := (HB.out.cell (p := ⟨pg, k, none⟩) hpl.out).trans (HP.out k hlt)
      have hpl2 : Lt pg wr.heap.size := Nat.lt_of_lt_of_le hpl.out HB.out.size
      have hm20 := part_len L k
      have hlast : decide (k + 1 = M) = ((k : Int) == (M : Int) - 1) := by
        by_cases e : k + 1 = M
        · rw [decide_eq_true e, beq_iff_eq.2 (by omega)]
        · rw [decide_eq_false e, beq_eq_false_iff_ne.2 (by omega)]
      have hsl : (secs L run n).length = M := by rw [secs_len, HM.out]
      have hstk : ((secs L run n).take k).length = k := by rw [List.length_take]; omega
      obtain ⟨q0, qc0, e0⟩ := HO.out.form
      rw [hstk] at e0
      subst e0
      have hCV : Hid (∀ wx, Below wr.heap.size wr wx → (convert 41 9 (.slice (some ⟨g, 20 * k, none⟩) (part L k).length (part L k).length)).run Try.prog wx = .ok (.string (toB (part L k))) wx) := Lib.hid (fun wx hb => conv_bs wx g (20 * k) _ (part L k) (fun j hj => by
        rw [hb.cell (p := ⟨g, 20 * k + j, none⟩) (Nat.lt_of_lt_of_le hg2.out HB.out.size), HB.out.cell (p := ⟨g, 20 * k + j, none⟩) hg2.out]
        exact HG2.out k hlt j hj))
      have hg20 := hg2.out
      obtain ⟨P5, hP5⟩ : ∃ P5 : List UInt8, P5 = ((((([] ++ encN run 4) ++ encN n 4) ++ encN k 2) ++ encN (if ((k : Int) == (M : Int) - 1) then 1 else 0) 1) ++ (encN (toB (part L k)).size 1 ++ (toB (part L k)).data.toList)) := ⟨_, rfl⟩
      have hP5l : P5.length = 12 + (part L k).length := by
        rw [hP5, toB_data]
        simp only [List.length_append, encN_length, List.length_nil]
        omega
      have hsec : secAt L run n k = toB (P5 ++ List.replicate (32 - P5.length) 0) := by
        unfold secAt secB secL
        rw [HM.out, hlast, hP5l, hP5, toB_size, toB_data, show 32 - (12 + (part L k).length) = 20 - (part L k).length by omega]
        simp only [List.nil_append]
      have HP5 := Lib.hid hP5
      clear hP5
      have HSEC := Lib.hid hsec
      clear hsec
      go_wp2_with fail
      obtain ⟨WA, hWA⟩ : ∃ WA, WA = wr.alloc (Obj.cells #[.slice none 0 0] 69) := ⟨_, rfl⟩
      rw [← hWA]
      have hba : Below wr.heap.size wr WA := by subst hWA; (repeat (first | exact Below.refl _ _ | assumption | refine nw_more ?_ _ _ | refine nw_alloc ?_ _ | refine nw_drew ?_ | refine nw_drewN ?_ _ | refine nw_set ?_ (by first | (simp; done) | (simp; omega) | omega) _))
      have hsa : Snk wr.heap.size WA wr.heap.size (.slice none 0 0) [] := by
        subst hWA
        exact ⟨by (repeat (first | exact Blc.newAt _ _ _ (by simp; done) | refine Blc.alloc ?_ _ | refine Blc.mre ?_ _ _)), OwnB.nil _ _, Nat.le_refl _⟩
      have HX : Hid (∀ wx, KpS wr.heap.size WA wx → Below wr.heap.size wr wx ∧ wr.heap.size ≤ wx.heap.size) := Lib.hid (fun wx hk => by
        have h1 := hba.trans (hk.below (by have := hba.size; omega))
        exact ⟨h1, h1.size⟩)
      have hza : wr.heap.size ≤ WA.heap.size := hba.size
      clear hWA hba hc0
      refine (sinkNumber_any wr.heap.size _ WA _ [] run 4 (by omega) (by decide) hsa (by simp) hza).mono ?_
      rintro e wa ⟨ua, rfl, ha, ka⟩
      have HA := Lib.hid ha
      have KA := Lib.hid ka
      clear ha ka hsa hza
      obtain ⟨-, rz⟩ := HX.out _ KA.out
      go_wp2_with fail
      refine (sinkNumber_any wr.heap.size _ wa _ _ n 4 (by omega) (by decide) HA.out (by simp [encN_length]) rz).mono ?_
      rintro e wb ⟨ub, rfl, hbb, kb⟩
      have HBB := Lib.hid hbb
      have KB := Lib.hid (KA.out.trans kb)
      clear hbb kb rz HA KA
      obtain ⟨-, rz⟩ := HX.out _ KB.out
      go_wp2_with fail
      refine (sinkNumber_any wr.heap.size _ wb _ _ k 2 (by omega) (by decide) HBB.out (by simp [encN_length]) rz).mono ?_
      rintro e wc ⟨uc, rfl, hcc, kc⟩
      have HCC := Lib.hid hcc
      have KC := Lib.hid (KB.out.trans kc)
      clear hcc kc rz HBB KB
      obtain ⟨-, rz⟩ := HX.out _ KC.out
      go_wp2_with fail
      refine (sinkFlag_any wr.heap.size _ wc _ _ ((k : Int) == (M : Int) - 1) HCC.out (by simp [encN_length]) rz).mono ?_
      rintro e wd ⟨ud, rfl, hdd, kd⟩
      have HDD := Lib.hid hdd
      have KD := Lib.hid (KC.out.trans kd)
      clear hdd kd rz HCC KC
      obtain ⟨rb, rz⟩ := HX.out _ KD.out
      have hcv := hCV.out _ rb
      go_wp2_with fail
      refine (sinkText_any wr.heap.size _ wd _ _ (toB (part L k)) (by rw [toB_size]; omega) HDD.out (by simp [encN_length]) rz).mono ?_
      rw [← HP5.out]
      rintro e we ⟨ue, rfl, hee, ke⟩
      have HEE := Lib.hid hee
      have KE := Lib.hid (KD.out.trans ke)
      clear hee ke rb rz hcv HDD KD hCV
      obtain ⟨-, rz⟩ := HX.out _ KE.out
      go_wp2_with fail
      refine (sinkFill_any wr.heap.size _ we _ _ 32 (by omega) HEE.out (by omega) (by omega) rz).mono ?_
      rintro e wf ⟨uf, rfl, hff, kf⟩
      have KF := Lib.hid (KE.out.trans kf)
      obtain ⟨rb, rz⟩ := HX.out _ KF.out
      have hl32 : (P5 ++ List.replicate (32 - P5.length) (0 : UInt8)).length = 32 := by rw [List.length_append, List.length_replicate]; omega
      obtain ⟨x0, xl⟩ := hff.c0
      obtain ⟨gf, gfc, hfu, hfc⟩ : ∃ gf gfc, uf = .slice (some ⟨gf, 0, none⟩) 32 gfc ∧ ∀ j (hj : j < (P5 ++ List.replicate (32 - P5.length) (0 : UInt8)).length), wf.cell? ⟨gf, 0 + j, none⟩ = some (.int .u8 ((P5 ++ List.replicate (32 - P5.length) (0 : UInt8))[j].toNat : Int)) := by
        rcases hff.own.form with ⟨e0, -⟩ | ⟨gf, gfc, e, -, -, -, hc⟩
        · rw [e0] at hl32; simp at hl32
        · rw [hl32] at e
          exact ⟨gf, gfc, e, fun j hj => by rw [Nat.zero_add]; exact hc j hj⟩
      subst hfu
      have hcv := conv_bs wf gf 0 gfc _ hfc
      rw [hl32, ← HSEC.out] at hcv
      have hos := own_below HO.out rb
      have HOS := Lib.hid hos
      have HRB := Lib.hid rb
      have hzr : w2.heap.size ≤ wf.heap.size := Nat.le_trans HB.out.size rz
      clear hff kf hfc hos rb HEE KE HX
      go_wp2_with (at_builtin; refine wpList_append_own _ rfl _ _ 23 rfl w2.heap.size 9 i0 (.string { data := #[] }) 1 16 Try.underlying23 HI.out hz0 hz1 hz2 rfl (by decide) _ ((secs L run n).take k).length (((secs L run n).take k).map Value.string) rfl (own_below HOS.out (by (repeat (first | exact Below.refl _ _ | assumption | refine nw_more ?_ _ _ | refine nw_alloc ?_ _ | refine nw_drew ?_ | refine nw_drewN ?_ _ | refine nw_set ?_ (by first | (simp; done) | (simp; omega) | omega) _)))) ⟨_, 0, none⟩ 1 1 [.string (secAt L run n k)] rfl rfl ?c1 ?c2 ?c3 ?c4 ?c5 ?_)
      case c1 => exact news1 (by simp [go_sem])
      case c2 => exact news1_one rfl
      case c3 => unfold maxLen; omega
      case c4 => omega
      case c5 => simp; omega
      intro V w3 hown' hgrow hnil
      clear hnil
      have hown2 : OwnS w2.heap.size w3 V ((secs L run n).take (k + 1)) := by
        unfold OwnS
        rw [secs_take_succ L run n k (by rw [HM.out]; exact hlt), List.length_append, hstk, List.map_append, List.map_take]
        exact hown'
      have hX : Below wf.heap.size wf (wf.alloc (Obj.cells #[.string (secAt L run n k)] 9)) := by (repeat (first | exact Below.refl _ _ | assumption | refine nw_more ?_ _ _ | refine nw_alloc ?_ _ | refine nw_drew ?_ | refine nw_drewN ?_ _ | refine nw_set ?_ (by first | (simp; done) | (simp; omega) | omega) _))
      have hbw : Below w2.heap.size w2 w3 := below_append (w := w2) ((HB.out.trans (HRB.out.mono (by have := HB.out.size; omega))).trans (hX.mono hzr)) (own_below HOS.out hX) hgrow
      have HO2 := Lib.hid hown2
      have HB2 := Lib.hid hbw
      clear hown' hgrow hX hown2 hbw HO HB hcv x0
      go_wp2
      go_roundg (M + 1 - k - 1)
      case measure => omega
      case rel => exact ⟨k + 1, V, by omega, by omega, by go_num, rfl, HO2, HB2⟩
    · have e : k = M := by omega
      have hkl : ¬ (k : Int) < (M : Int) := by omega
      have hfin := HO.out
      rw [List.take_of_length_le (by rw [secs_len, HM.out]; omega)] at hfin
      have HF : Hid (OwnS w.heap.size wr u8 (secs L run n)) := Lib.hid (World.ownsRow.mono hfin hz2w)
      have HBF : Hid (Below w.heap.size w wr) := Lib.hid (HBE2.out.trans (HB.out.mono hz2w))
      clear hfin HO HB
      go_wp2
      go_ret
      exact ⟨_, rfl, HF.out, HBF.out⟩
end Go.Proofs.Ytaelgappabecgaa
