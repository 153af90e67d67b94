/- Contracts: a record's bytes. No condition. -/
import Derived.Test.YtaelgappabecgaaCoA2
import Derived.Test.YtaelgappabecgaaCoB
namespace Go.Proofs.Ytaelgappabecgaa
open Go.RowKit

/-- The sink's cell, read. -/
theorem Snk.c0 {B b : Nat} {w : World} {u : Value} {l : List UInt8} (h : Snk B w b u l) : w.cell? ⟨b, 0, none⟩ = some u ∧ Lt b w.heap.size := by
  refine ⟨?_, h.blk.lt⟩
  have := h.blk.cell 0
  simpa using this
set_option maxRecDepth 100000 in
set_option maxHeartbeats 8000000 in
theorem bytesOf_any (w : World) (c : Int) (v : Value) (l : List Wr) (h : WsAt w v l) (hok : rOk c l = true) :
    Calls Try.prog 23 #[.agg #[.int .i64 c, v]] w fun e w' => ∃ u, e = .returned u ∧ OwnB w.heap.size w' u (rBytes c l) ∧ Below w.heap.size w w' := by
  obtain ⟨p, cap, rfl, -, hcap, -⟩ := h.at
  have H := Lib.hid h
  obtain ⟨g1, g2, g3, g4⟩ := rOk_parts hok
  obtain ⟨cn, rfl⟩ : ∃ cn : Nat, c = (cn : Int) := ⟨c.toNat, (Int.toNat_of_nonneg (by omega)).symm⟩
  have G4 := Lib.hid g4
  clear h hok g4
  go_enter Try.func23, Try.ntmps23
  go_wp2_with fail
  obtain ⟨W0, hW0⟩ : ∃ W0, W0 = (w.alloc (Obj.cells #[.int .i64 cn, .slice p l.length cap] 34)).alloc (Obj.cells #[.slice none 0 0] 69) := ⟨_, rfl⟩
  rw [← hW0]
  have hs0 : Snk (w.heap.size + 1) W0 (w.heap.size + 1) (.slice none 0 0) [] := by
    subst hW0
    exact ⟨by (repeat (first | exact Blc.newAt _ _ _ (by simp; done) | refine Blc.alloc ?_ _ | refine Blc.mre ?_ _ _)), OwnB.nil _ _, Nat.le_refl _⟩
  have hb0 : Blc W0 w.heap.size 34 #[.int .i64 cn, .slice p l.length cap] := by subst hW0; (repeat (first | exact Blc.newAt _ _ _ (by simp; done) | refine Blc.alloc ?_ _ | refine Blc.mre ?_ _ _))
  have hl0 : Below w.heap.size w W0 := by subst hW0; (repeat (first | exact Below.refl _ _ | assumption | refine nw_more ?_ _ _ | refine nw_alloc ?_ _ | refine nw_drew ?_ | refine nw_drewN ?_ _ | refine nw_set ?_ (by first | (simp; done) | (simp; omega) | omega) _))
  have hz0 : W0.heap.size = w.heap.size + 1 + 1 := by subst hW0; simp
  have HB0 := Lib.hid hb0
  have HL0 := Lib.hid hl0
  have HZ0 := Lib.hid hz0
  clear hW0 hb0 hl0 hz0
  have HR : Hid (∀ wx, KpS (w.heap.size + 1) W0 wx → wx.cell? ⟨w.heap.size, 0, none⟩ = some (.int .i64 cn) ∧ wx.cell? ⟨w.heap.size, 1, none⟩ = some (.slice p l.length cap) ∧ Lt w.heap.size wx.heap.size ∧ w.heap.size + 1 ≤ wx.heap.size ∧ Below w.heap.size w wx ∧ WsAt wx (.slice p l.length cap) l) := Lib.hid (by
    intro wx hk
    have hz := HZ0.out
    have hb := hk.below (by omega)
    have hbl := HB0.out.kps hk (by decide) (by decide)
    have hbw : Below w.heap.size w wx := HL0.out.trans (hb.mono (by omega))
    refine ⟨?_, ?_, hbl.lt, by have := hk.size; omega, hbw, H.out.below hbw⟩
    · have := hbl.cell 0; simpa using this
    · have := hbl.cell 1; simpa using this)
  refine (sinkNumber_any (w.heap.size + 1) _ W0 _ [] cn 4 (by omega) (by decide) hs0 (by simp) (by have := HZ0.out; omega)).mono ?_
  rintro e w1 ⟨u1, rfl, h1, k1⟩
  have H1 := Lib.hid h1
  have K1 := Lib.hid k1
  obtain ⟨x0, x1, x2, x3, -, -⟩ := HR.out _ k1
  clear h1 k1 hs0
  go_wp2_with fail
  refine (sinkNumber_any (w.heap.size + 1) _ w1 _ _ l.length 4 (by omega) (by decide) H1.out (by simp [encN_length]) x3).mono ?_
  rintro e w2 ⟨u2, rfl, h2, k2⟩
  have H2 := Lib.hid h2
  have K2 := Lib.hid (K1.out.trans k2)
  clear h2 k2 x0 x1 x2 x3 H1 K1
  obtain ⟨x0, x1, x2, x3, -, -⟩ := HR.out _ K2.out
  go_wp2_with fail
  go_loopg [16] (l.length + 1) (fun g s16 wr => ∃ (k : Nat) (u' : Value), k ≤ l.length ∧ g + k = l.length + 1 ∧ s16 = .int .i64 k ∧ Hid (Snk (w.heap.size + 1) wr (w.heap.size + 1) u' (([] ++ encN cn 4) ++ encN l.length 4 ++ (l.take k).flatMap wBytes)) ∧ Hid (KpS (w.heap.size + 1) W0 wr))
  case atStart => exact ⟨0, u2, Nat.zero_le _, rfl, rfl, by simpa using H2, K2⟩
  case round =>
    clear x0 x1 x2 x3 H2 K2
    obtain ⟨k, u', hk, hg, rfl, HS, HK⟩ := hrel
    obtain rfl : gk = l.length + 1 - k := by omega
    clear hg
    obtain ⟨-, -, -, x3, hbw, hws⟩ := HR.out _ HK.out
    by_cases hlt : k < l.length
    · have hkl : (k : Int) < (l.length : Int) := by omega
      obtain ⟨p', cap', e1, -, -, hat⟩ := hws.at
      simp only [Value.slice.injEq] at e1
      obtain ⟨rfl, -, rfl⟩ := e1
      obtain ⟨b, off, x, rfl, hb, hc0, hc1, hc2, hc3, hd, hxk, hsk, hsz⟩ := hat k hlt
      have hx : wOk x = true := List.all_eq_true.1 G4.out x (List.mem_of_getElem? hxk)
      have hlen := flat_len (l.take k) (List.all_eq_true.2 fun y hy => List.all_eq_true.1 G4.out y (List.mem_of_mem_take hy))
      rw [List.length_take] at hlen
      have htk : l.take (k + 1) = l.take k ++ [x] := by
        rw [List.take_add_one, hxk]; rfl
      obtain ⟨t, kk, s, g⟩ := x
      dsimp only at hc0 hc1 hc2 hc3 hsk hsz
      have hx2 := hx
      unfold wOk plB kB valB at hx2
      simp only [Bool.and_eq_true, decide_eq_true_eq] at hx2
      obtain ⟨tn, rfl⟩ : ∃ tn : Nat, t = (tn : Int) := ⟨t.toNat, (Int.toNat_of_nonneg (by omega)).symm⟩
      have hgoal : ([] ++ encN cn 4) ++ encN l.length 4 ++ (l.take (k + 1)).flatMap wBytes = ((((([] ++ encN cn 4) ++ encN l.length 4 ++ (l.take k).flatMap wBytes) ++ encN tn 1) ++ encN (if g then 1 else 0) 1) ++ (encN kk.size 1 ++ kk.data.toList)) ++ (encN s.size 1 ++ s.data.toList) := by
        rw [htk, List.flatMap_append]
        simp [wBytes]
      have HG := Lib.hid hgoal
      have hbl : (([] ++ encN cn 4) ++ encN l.length 4 ++ (l.take k).flatMap wBytes).length ≤ 2500 := by
        simp only [List.length_append, encN_length, List.length_nil]; omega
      generalize ([] ++ encN cn 4) ++ encN l.length 4 ++ (l.take k).flatMap wBytes = bs at *
      generalize hgf : (if g then 1 else 0) = gn at *
      clear hgoal hat hd hxk hlen htk hx hws
      go_wp2_with fail
      obtain ⟨WA, hWA⟩ : ∃ WA, WA = wr.alloc (Obj.cells #[.int .i64 tn, .string kk, .string s, .bool g] 43) := ⟨_, rfl⟩
      rw [← hWA]
      have hba : Below wr.heap.size wr WA := by subst hWA; (repeat (first | exact Below.refl _ _ | assumption | refine nw_more ?_ _ _ | refine nw_alloc ?_ _ | refine nw_drew ?_ | refine nw_drewN ?_ _ | refine nw_set ?_ (by first | (simp; done) | (simp; omega) | omega) _))
      have hbx : Blc WA wr.heap.size 43 #[.int .i64 tn, .string kk, .string s, .bool g] := by subst hWA; (repeat (first | exact Blc.newAt _ _ _ (by simp; done) | refine Blc.alloc ?_ _ | refine Blc.mre ?_ _ _))
      have HX : Hid (∀ wx, KpS (w.heap.size + 1) WA wx → wx.cell? ⟨wr.heap.size, 1, none⟩ = some (.string kk) ∧ wx.cell? ⟨wr.heap.size, 2, none⟩ = some (.string s) ∧ wx.cell? ⟨wr.heap.size, 3, none⟩ = some (.bool g) ∧ Lt wr.heap.size wx.heap.size ∧ w.heap.size + 1 ≤ wx.heap.size) := Lib.hid (by
        intro wx hk
        have hbl := hbx.kps hk (by decide) (by decide)
        have r1 := hbl.cell 1
        have r2 := hbl.cell 2
        have r3 := hbl.cell 3
        refine ⟨by simpa using r1, by simpa using r2, by simpa using r3, hbl.lt, ?_⟩
        have := hk.size
        have := hba.size
        omega)
      have hsa := HS.out.below hba
      have HKA := Lib.hid (HK.out.trans (KpS.of hba))
      have hza : w.heap.size + 1 ≤ WA.heap.size := by have := hba.size; omega
      clear hWA hba hbx HS HK hc0 hc1 hc2 hc3 hb HB0 H hbw x3
      refine (sinkNumber_any (w.heap.size + 1) _ WA _ bs tn 1 (by omega) (by decide) hsa (by omega) hza).mono ?_
      rintro e wa ⟨ua, rfl, ha, ka⟩
      have HA := Lib.hid ha
      have KA := Lib.hid ka
      clear ha ka hsa hza
      obtain ⟨r1, r2, r3, rl, rz⟩ := HX.out _ KA.out
      go_wp2_with fail
      refine (sinkFlag_any (w.heap.size + 1) _ wa _ _ g HA.out (by simp only [List.length_append, encN_length]; omega) rz).mono ?_
      rw [hgf]
      rintro e wb ⟨ub, rfl, hbb, kb⟩
      have HBB := Lib.hid hbb
      have KB := Lib.hid (KA.out.trans kb)
      clear hbb kb r1 r2 r3 rl rz HA KA
      obtain ⟨r1, r2, r3, rl, rz⟩ := HX.out _ KB.out
      go_wp2_with fail
      refine (sinkText_any (w.heap.size + 1) _ wb _ _ kk (by omega) HBB.out (by simp only [List.length_append, encN_length]; omega) rz).mono ?_
      rintro e wc ⟨uc, rfl, hcc, kc⟩
      have HCC := Lib.hid hcc
      have KC := Lib.hid (KB.out.trans kc)
      clear hcc kc r1 r2 r3 rl rz HBB KB
      obtain ⟨r1, r2, r3, rl, rz⟩ := HX.out _ KC.out
      have hkl2 : kk.data.toList.length = kk.size := Array.length_toList
      go_wp2_with fail
      refine (sinkText_any (w.heap.size + 1) _ wc _ _ s (by omega) HCC.out (by simp only [List.length_append, encN_length, hkl2]; omega) rz).mono ?_
      rintro e wd ⟨ud, rfl, hdd, kd⟩
      have HDD := Lib.hid hdd
      have KD := Lib.hid (KC.out.trans kd)
      clear hdd kd r1 r2 r3 rl rz HCC KC
      go_wp2
      go_roundg (l.length + 1 - k - 1)
      case measure => omega
      case rel => exact ⟨k + 1, ud, by omega, by omega, by go_num, Lib.hid (by rw [HG.out]; exact HDD.out), Lib.hid (HKA.out.trans KD.out)⟩
    · have e : k = l.length := by omega
      have hkl : ¬ (k : Int) < (l.length : Int) := by omega
      obtain ⟨x0, x1⟩ := HS.out.c0
      have hE : (([] ++ encN cn 4) ++ encN l.length 4 ++ (l.take k).flatMap wBytes) = rBytes cn l := by
        rw [e, List.take_length]
        simp [rBytes]
      have ho := HS.out.own
      rw [hE] at ho
      have HO := Lib.hid ho
      have HBE := Lib.hid hbw
      clear ho hE e HS hws
      go_wp2
      go_ret
      exact ⟨_, rfl, World.ownsRow.mono HO.out (by omega), HBE.out⟩
end Go.Proofs.Ytaelgappabecgaa
