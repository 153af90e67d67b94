/- Contract of the page's walk: leaf . -/
import Derived.Test.YtaophiknldkfdaaGreatDoorTreeLf
import Derived.Great.BuildSlice
namespace Go.Proofs.YtaophiknldkfdaaGreatDoor
open Go.RowKit

set_option maxRecDepth 100000 in
set_option maxHeartbeats 4000000 in
theorem leaf_any {α : Type} (K : Ks α) (B wb sb N : Nat) (w0 W : World) (v u : Value) (r : Int) (s s' : Wk α) (x : Nv α) (d : Nat) (h0 : Below w0.heap.size w0 W) (hx : NodeIn K B w0 x) (hw : WkIn w0.heap.size W wb sb N v u r s) (hwb : w0.heap.size ≤ wb) (hne : wb ≠ sb) (hd : 0 < d) (hsm : ∀ q ∈ x.n.rows, q < 100) (hrl : s.rows.length ≤ 100000) (hkl : x.n.keys.length ≤ 1000) (h : leafW K s x.n d = some s') :
    Calls Tryz.prog 58 #[.pointer (some ⟨wb, 0, none⟩), .agg #[x.kv, x.rv, x.cv, .bool x.n.leaf], .int .i64 d] W fun e w' => e = .returned (.tuple #[]) ∧ Hid (WkIn w0.heap.size w' wb sb N v u r s' ∧ WkStep w0.heap.size wb sb W w') := by
  obtain ⟨hdp, hck, hrk, hka, hra, rfl⟩ := leafW_parts h
  obtain ⟨kp, kc, hkv, hkle, hkat⟩ := hx.1.at
  obtain ⟨rp, rc, hrv, hrle, hrat⟩ := hx.2.1.at
  obtain ⟨cp, cc, hcv, -⟩ := hx.2.2.slice
  rw [hkv, hrv, hcv, hck]
  rw [hrk] at hrat ⊢
  obtain ⟨i0, hi, hz0, hz1, hz2⟩ := info_parts info_row
  have HI := Lib.hid hi
  have HKA := Lib.hid hka
  have HRA := Lib.hid hra
  have HKAT := Lib.hid hkat
  have HRAT := Lib.hid hrat
  have HSM := Lib.hid hsm
  have H0 := Lib.hid h0
  have HW := Lib.hid hw
  have HRK := Lib.hid hrk
  have hG : w0.heap.size ≤ W.heap.size := h0.size
  obtain ⟨rv, ys, b1, b2, b3⟩ := hw
  have d4 := b1.cell 4
  have f4 := b1.free 4
  have hwl : Lt wb W.heap.size := b1.lt
  simp only [List.getElem?_toArray, List.getElem?_cons_succ, List.getElem?_cons_zero] at d4
  have hd0 : ¬ (d : Int) = 0 := by omega
  generalize x.n.leaf = lf
  generalize hL : x.n.keys.length = L at *
  have HL := Lib.hid hL
  clear h hx b1 b2 b3 hkv hrv hcv hkat hrat hka hra hsm hi h0 hL hrk hck
  have hne3 : W.heap.size ≠ sb := by obtain ⟨_, _, -, b2, -⟩ := HW.out; have := b2.lt; omega
  have hne2 : wb ≠ W.heap.size := by have : wb < W.heap.size := hwl; omega
  by_cases hz : s.deep = 0
  · rw [hz] at d4
    go_enter Tryz.func58, Tryz.ntmps58
    go_upto_region 3 with (fail)
    refine wcut (fun W1 => Hid (WkIn w0.heap.size W1 wb sb N v u r ⟨s.seen, d, s.rows⟩) ∧ Hid (WkStep w0.heap.size wb sb W W1) ∧ Hid (Blc W1 W.heap.size 53 #[.slice kp L kc, .slice rp L rc, .slice cp 0 cc, .bool lf])) ?_ ?_
    · have hbel : Below W.heap.size W (W.alloc (Obj.cells #[.slice kp L kc, .slice rp L rc, .slice cp 0 cc, .bool lf] 53)) := nw_alloc (Below.refl _ _) _
      obtain ⟨r1, r2⟩ := (HW.out.below hbel).set hwb hne d
      rw [show ∀ (o : Obj), (W.setCell ⟨wb, 4, none⟩ (.int .i64 d)).alloc o = (W.alloc o).setCell ⟨wb, 4, none⟩ (.int .i64 d) from fun o => by rw [World.setCell_alloc_past]; exact hwl]
      exact ⟨Lib.hid r1, Lib.hid ((WkStep.of hG hbel).trans r2), Lib.hid ((Blc.new W _ _).far (a := ⟨wb, 4, none⟩) (fun e => hne2 e.symm) _)⟩
    clear HW d4 f4 hwl
    rintro W1 ⟨HW, HST, HBX⟩
    obtain ⟨rv1, ys1, b1, -, -⟩ := HW.out
    have d4 := b1.cell 4
    have hwl : Lt wb W1.heap.size := b1.lt
    have x0 := HBX.out.cell 0
    have x1 := HBX.out.cell 1
    have x2 := HBX.out.cell 2
    have hxl : Lt W.heap.size W1.heap.size := HBX.out.lt
    simp only [List.getElem?_toArray, List.getElem?_cons_succ, List.getElem?_cons_zero] at d4 x0 x1 x2
    clear b1
    go_wp2
    go_loopg [6] (L + 1) (fun g s6 wr => ∃ k : Nat, k ≤ L ∧ g + k = L + 1 ∧ s6 = .int .i64 k ∧ Hid (WkIn w0.heap.size wr wb sb N v u r ⟨s.seen, d, s.rows ++ (x.n.keys.zip x.n.rows).take k⟩) ∧ Hid (WkStep w0.heap.size wb sb W wr) ∧ Hid (Blc wr W.heap.size 53 #[.slice kp L kc, .slice rp L rc, .slice cp 0 cc, .bool lf]))
    case atStart => exact ⟨0, Nat.zero_le _, by omega, rfl, Lib.hid (by simpa using HW.out), HST, HBX⟩
    case round =>
      obtain ⟨k, hk, hgk, rfl, HWr, HSr, HBr⟩ := hrel
      clear d4 hwl x0 x1 x2 hxl
      have x0 := HBr.out.cell 0
      have x1 := HBr.out.cell 1
      have hxl : Lt W.heap.size wr.heap.size := HBr.out.lt
      simp only [List.getElem?_toArray, List.getElem?_cons_succ, List.getElem?_cons_zero] at x0 x1
      by_cases hlt : k < L
      · obtain ⟨kb, ko, kx, ekp, hkb, hkc, -, hkx⟩ := HKAT.out k hlt
        obtain ⟨rb, ro, rx, erp, hrb, hrc, -, hrx⟩ := HRAT.out k hlt
        subst ekp erp
        have HB0 : Hid (Below w0.heap.size w0 wr) := Lib.hid (H0.out.trans HSr.out.below)
        have m1 := (HB0.out.cell (p := ⟨kb, ko + k, none⟩) hkb).trans hkc
        have m2 := (HB0.out.cell (p := ⟨rb, ro + k, none⟩) hrb).trans hrc
        have hkb2 : Lt kb wr.heap.size := Nat.lt_of_lt_of_le hkb HB0.out.size
        have hrb2 : Lt rb wr.heap.size := Nat.lt_of_lt_of_le hrb HB0.out.size
        obtain ⟨q, hq, hq100⟩ : ∃ q : Nat, rx = q ∧ q < 100 := by
          have h1 := rowsB_at HRA.out hrx
          unfold rowB at h1
          simp only [Bool.and_eq_true, decide_eq_true_eq] at h1
          have h2 := HSM.out rx (List.mem_of_getElem? hrx)
          exact ⟨rx.toNat, by omega, by omega⟩
        subst hq
        have HOK : Hid (K.ok kx = true) := Lib.hid (keysB_at HKA.out hkx)
        have HNB : Hid (numB (q : Int) 1073741824 = true) := Lib.hid (by unfold numB; simp; omega)
        have hlt2 : (k : Int) < (L : Int) := by omega
        have k0 : (0 : Int) ≤ (k : Int) := by omega
        have hG2 : w0.heap.size ≤ wr.heap.size := Nat.le_trans hG HSr.out.size
        have HZIP : Hid ((x.n.keys.zip x.n.rows).take (k + 1) = (x.n.keys.zip x.n.rows).take k ++ [(kx, (q : Int))]) := Lib.hid (by
          rw [List.take_add_one]
          congr 1
          have : (x.n.keys.zip x.n.rows)[k]? = some (kx, (q : Int)) := by rw [List.getElem?_zip_eq_some]; exact ⟨hkx, hrx⟩
          rw [this]; rfl)
        have HKB := Lib.hid hkb
        have HRB := Lib.hid hrb
        clear hkb hkc hkx hrb hrc hrx
        go_upto_region 10 with (first
          | (go_at_call 74; refine (rkeyK_any K kx _).mono ?_; rw [HOK.out]; rintro e w' ⟨rfl, rfl⟩)
          | (go_at_call 32; refine (numB_any _ _ _).mono ?_; rw [HNB.out]; rintro e w' ⟨rfl, rfl⟩))
        obtain ⟨rv, ys, b1, b2, b3⟩ := HWr.out
        have HB1 := Lib.hid b1
        have HB2 := Lib.hid b2
        have HB3 := Lib.hid b3
        have w5 := b1.cell 5
        have f5 := b1.free 5
        have hwl : Lt wb wr.heap.size := b1.lt
        simp only [List.getElem?_toArray, List.getElem?_cons_succ, List.getElem?_cons_zero] at w5
        have hnl : (s.rows ++ (x.n.keys.zip x.n.rows).take k).length ≤ 102000 := by
          have : (x.n.keys.zip x.n.rows).length ≤ 1000 := by rw [List.length_zip]; have := HL.out; omega
          rw [List.length_append, List.length_take]
          omega
        have n1 : rv.ownBlock ≠ some wb := not_own b3 b1 (by decide)
        have n2 : rv.ownBlock ≠ some W.heap.size := not_own b3 HBr.out (by decide)
        have n3 : rv.ownBlock ≠ some kb := fun e => by have h1 := (World.ownsRow.lt b3 kb e).1; have h2 : kb < w0.heap.size := HKB.out; omega
        have n4 : rv.ownBlock ≠ some rb := fun e => by have h1 := (World.ownsRow.lt b3 rb e).1; have h2 : rb < w0.heap.size := HRB.out; omega
        generalize hnr : (s.rows ++ (x.n.keys.zip x.n.rows).take k).length = nr at *
        have HNR := Lib.hid hnr
        clear b1 b2 b3 hnr
        obtain ⟨C0, hC0⟩ : ∃ C0 : World → Prop, ∀ w9, C0 w9 ↔ (w9.cell? ⟨wb, 5, none⟩ = some rv ∧ w9.cell? ⟨W.heap.size, 0, none⟩ = some (.slice (some ⟨kb, ko, none⟩) L kc) ∧ w9.cell? ⟨W.heap.size, 1, none⟩ = some (.slice (some ⟨rb, ro, none⟩) L rc) ∧ w9.cell? ⟨kb, ko + k, none⟩ = some (.string (K.s kx)) ∧ w9.cell? ⟨rb, ro + k, none⟩ = some (.int .i64 q)) := ⟨_, fun _ => Iff.rfl⟩
        have hCall : ∀ j vs w9, LfPost w0.heap.size wb wr rv nr (K.s kx) j vs w9 → j < 4 → C0 w9 := fun j vs w9 hp hj => (hC0 _).2 ⟨lf_cell hp hj hwl n1 w5, lf_cell hp hj hxl n2 x0, lf_cell hp hj hxl n2 x1, lf_cell hp hj hkb2 n3 m1, lf_cell hp hj hrb2 n4 m2⟩
        refine wp_region_seq [15, 17, 18, 21] [#[.tmp 80], #[.tmp 82], #[.tmp 70, .tmp 83], #[.tmp 86, .tmp 84]] (by kernel_rfl) (by kernel_rfl) (fun vs => by kernel_rfl) (fun w9 => ∃ p : Among C0, w9 = p.w) (fun j vs => match j with
          | 0 => #[.int .i64 q]
          | 1 => #[.agg #[.string (K.s kx), vs.getD 0 undef]]
          | 2 => #[rv, vs.getD 1 undef]
          | _ => #[.pointer (some ⟨wb, 5, none⟩), vs.getD 2 undef]) (LfPost w0.heap.size wb wr rv nr (K.s kx)) rfl (fun j vs w9 hp hj => ⟨⟨w9, hCall j vs w9 hp hj⟩, rfl⟩) (fun j vs w9 hp => lf_len hp) (fun j vs w9 hp hj => lf_ext hG2 HB3.out hnl hp hj) ?hstep ?hwalk
        case hstep =>
          intro j vs w9 o hp hj ho a next hargs hn
          unfold LfPost at hp
          split at hp
          · subst hp
            obtain rfl := Option.some.inj ho
            have e1 : a.eval (.tmp 80) = .int .i64 q := by simpa using congrArg (fun (x : Array Value) => x.getD 0 undef) hargs
            unfold Oper.wp execOp
            have e2 : a.tmps[80]?.getD undef = .int .i64 q := by simpa [go_sem] using e1
            simp [e2, go_sem]
            refine (itoa_any q hq100 _).mono ?_
            rintro e w' ⟨⟨str, rfl⟩, rfl⟩
            exact hn _ _ ⟨⟨str, rfl⟩, rfl⟩
          · obtain ⟨⟨str, rfl⟩, rfl⟩ := hp
            obtain rfl := Option.some.inj ho
            have e1 : a.eval (.tmp 82) = .agg #[.string (K.s kx), .string str] := by simpa using congrArg (fun (x : Array Value) => x.getD 0 undef) hargs
            refine wp_buildSlice _ _ 1 _ rfl #[.string (K.s kx), .string str] i0 _ Tryz.underlying41 HI.out hz0 (by rw [hz1]; decide) (by rw [hz1]; decide) (by simp [e1, hz1, Instr.fill, Value.cells, show Array.range 2 = #[0, 1] by decide]) ?_
            exact hn _ _ ⟨str, rfl, rfl, rfl⟩
          · obtain ⟨str, rfl, rfl, rfl⟩ := hp
            obtain rfl := Option.some.inj ho
            have e1 : a.eval (.tmp 70) = rv := by simpa using congrArg (fun (x : Array Value) => x.getD 0 undef) hargs
            have e2 : a.eval (.tmp 83) = .slice (some ⟨wr.heap.size, 0, none⟩) 1 1 := by simpa using congrArg (fun (x : Array Value) => x.getD 1 undef) hargs
            refine wp_append_own _ (.tmp 70) (.tmp 83) _ rfl w0.heap.size 119 i0 _ 2 32 Tryz.underlying41 HI.out hz0 hz1 hz2 rfl (by decide) rv nr ys e1 (World.ownsRow.alloc (own_below HB3.out (nw_drew (Below.refl _ _))) _) ⟨wr.heap.size, 0, none⟩ 1 1 [.string (K.s kx), .string str] e2 rfl (news2 (by simp [go_sem]) (by simp [go_sem])) (by simp [Value.oneCell']) (by unfold maxLen; omega) (by omega) (by simp; omega) fun v' w' h2 h3 _ => ?_
            exact hn _ _ ⟨str, _, _, rfl, rfl, h2, h3⟩
          · obtain ⟨str, w2, zs, ha, rfl, h2, h3⟩ := hp
            obtain rfl := Option.some.inj ho
            obtain ⟨q1, qc1, rfl⟩ := slice_own6 h2 (Nat.succ_pos _)
            have e1 : a.eval (.tmp 86) = .pointer (some ⟨wb, 5, none⟩) := by simpa using congrArg (fun (x : Array Value) => x.getD 0 undef) hargs
            have e2 : a.eval (.tmp 84) = .slice q1 (nr + 1) qc1 := by simpa using congrArg (fun (x : Array Value) => x.getD 1 undef) hargs
            have hbl := (HB1.out.below (show Below wr.heap.size wr (wr.drew.alloc (.cells #[.string (K.s kx), .string str] 119)) from nw_alloc (nw_drew (Below.refl _ _)) _)).grown h3 n1
            have s5 := hbl.cell 5
            have sf5 := hbl.free 5
            have sl5 := hbl.lt
            simp only [List.getElem?_toArray, List.getElem?_cons_succ, List.getElem?_cons_zero] at s5
            unfold Oper.wp execOp
            have e3 : a.tmps[86]?.getD undef = .pointer (some ⟨wb, 5, none⟩) := by simpa [go_sem] using e1
            have e4 : a.tmps[84]?.getD undef = .slice q1 (nr + 1) qc1 := by simpa [go_sem] using e2
            simp [e3, e4, s5, sf5, go_sem]
            exact hn _ _ ⟨rfl, _, str, _, _, ha, rfl, h2, h3, rfl⟩
          · simp at hj
          · cases hp
        case hwalk =>
          intro vs w9 hp
          obtain ⟨v1, v2, v3, v4, rfl⟩ : ∃ v1 v2 v3 v4, vs = [v1, v2, v3, v4] := lf_four hp
          obtain ⟨rfl, w3, str, w2, zs, rfl, hw2, hown, hgr, rfl⟩ : LfPost w0.heap.size wb wr rv nr (K.s kx) 4 [v1, v2, v3, v4] w9 := hp
          simp only [opsSeq, dum, posOf, Nat.reduceAdd, Nat.reduceEqDiff, if_false, if_true, Option.map_none, Option.map_some, List.getD_cons_zero, List.getD_cons_succ]
          have c0 : ∀ p : Among C0, p.w.cell? ⟨wb, 5, none⟩ = some rv := fun p => ((hC0 _).1 p.ok).1
          have c1 : ∀ p : Among C0, p.w.cell? ⟨W.heap.size, 0, none⟩ = some (.slice (some ⟨kb, ko, none⟩) L kc) := fun p => ((hC0 _).1 p.ok).2.1
          have c2 : ∀ p : Among C0, p.w.cell? ⟨W.heap.size, 1, none⟩ = some (.slice (some ⟨rb, ro, none⟩) L rc) := fun p => ((hC0 _).1 p.ok).2.2.1
          have c3 : ∀ p : Among C0, p.w.cell? ⟨kb, ko + k, none⟩ = some (.string (K.s kx)) := fun p => ((hC0 _).1 p.ok).2.2.2.1
          have c4 : ∀ p : Among C0, p.w.cell? ⟨rb, ro + k, none⟩ = some (.int .i64 q) := fun p => ((hC0 _).1 p.ok).2.2.2.2
          have hinh : Nonempty (Among C0) := ⟨⟨wr, (hC0 _).2 ⟨w5, x0, x1, m1, m2⟩⟩⟩
          (repeat (first | go_big_quiet_skip | quiet_step (fail)))
          subst hw2
          obtain ⟨z1, z2⟩ := lf_step (d := d) (seen := s.seen) (rows' := s.rows ++ (x.n.keys.zip x.n.rows).take (k + 1)) hG2 hwb hne HB1.out HB2.out HB3.out hown hgr (by rw [HZIP.out, ← List.append_assoc, List.length_append, HNR.out]; rfl)
          have HZ1 := Lib.hid z1
          have HZ2 := Lib.hid (HSr.out.trans z2)
          have HZ3 := Lib.hid (z2.blc _ _ _ HBr.out hne2.symm hne3 (by decide))
          refine ⟨fun j hj => ?_, ?_⟩
          · match j, hj with
            | 0, _ => simp [go_sem]
            | 1, _ => simp [go_sem]
            | 2, _ => simp [go_sem]
            | 3, _ => simp [go_sem]
          · clear z1 z2
            go_wp2
            go_roundg (L - k)
            · exact ⟨k + 1, by omega, by omega, by simp, HZ1, HZ2, HZ3⟩
            · omega
      · obtain rfl : k = L := by omega
        have hnlt : ¬ (k : Int) < (k : Int) := by omega
        go_wp2
        go_end0
        refine ⟨rfl, Lib.hid ⟨?_, HSr.out⟩⟩
        have := HWr.out
        rw [List.take_of_length_le (by rw [List.length_zip, HRK.out, HL.out]; omega)] at this
        exact this
  · have hdd : s.deep = d := hdp.resolve_left hz
    rw [hdd] at d4
    have hdb : ((d : Int) == 0) = false := beq_eq_false_iff_ne.2 hd0
    go_enter Tryz.func58, Tryz.ntmps58
    go_upto_region 3 with (fail)
    refine wcut (fun W1 => Hid (WkIn w0.heap.size W1 wb sb N v u r ⟨s.seen, d, s.rows⟩) ∧ Hid (WkStep w0.heap.size wb sb W W1) ∧ Hid (Blc W1 W.heap.size 53 #[.slice kp L kc, .slice rp L rc, .slice cp 0 cc, .bool lf])) ?_ ?_
    · have hbel : Below W.heap.size W (W.alloc (Obj.cells #[.slice kp L kc, .slice rp L rc, .slice cp 0 cc, .bool lf] 53)) := nw_alloc (Below.refl _ _) _
      have r1 : WkIn w0.heap.size (W.alloc (Obj.cells #[.slice kp L kc, .slice rp L rc, .slice cp 0 cc, .bool lf] 53)) wb sb N v u r ⟨s.seen, d, s.rows⟩ := by
        have := HW.out.below hbel
        rw [← hdd]
        exact this
      exact ⟨Lib.hid r1, Lib.hid (WkStep.of hG hbel), Lib.hid (Blc.new W _ _)⟩
    clear HW d4 f4 hwl
    rintro W1 ⟨HW, HST, HBX⟩
    obtain ⟨rv1, ys1, b1, -, -⟩ := HW.out
    have d4 := b1.cell 4
    have hwl : Lt wb W1.heap.size := b1.lt
    have x0 := HBX.out.cell 0
    have x1 := HBX.out.cell 1
    have x2 := HBX.out.cell 2
    have hxl : Lt W.heap.size W1.heap.size := HBX.out.lt
    simp only [List.getElem?_toArray, List.getElem?_cons_succ, List.getElem?_cons_zero] at d4 x0 x1 x2
    clear b1
    go_wp2
    go_loopg [6] (L + 1) (fun g s6 wr => ∃ k : Nat, k ≤ L ∧ g + k = L + 1 ∧ s6 = .int .i64 k ∧ Hid (WkIn w0.heap.size wr wb sb N v u r ⟨s.seen, d, s.rows ++ (x.n.keys.zip x.n.rows).take k⟩) ∧ Hid (WkStep w0.heap.size wb sb W wr) ∧ Hid (Blc wr W.heap.size 53 #[.slice kp L kc, .slice rp L rc, .slice cp 0 cc, .bool lf]))
    case atStart => exact ⟨0, Nat.zero_le _, by omega, rfl, Lib.hid (by simpa using HW.out), HST, HBX⟩
    case round =>
      obtain ⟨k, hk, hgk, rfl, HWr, HSr, HBr⟩ := hrel
      clear d4 hwl x0 x1 x2 hxl
      have x0 := HBr.out.cell 0
      have x1 := HBr.out.cell 1
      have hxl : Lt W.heap.size wr.heap.size := HBr.out.lt
      simp only [List.getElem?_toArray, List.getElem?_cons_succ, List.getElem?_cons_zero] at x0 x1
      by_cases hlt : k < L
      · obtain ⟨kb, ko, kx, ekp, hkb, hkc, -, hkx⟩ := HKAT.out k hlt
        obtain ⟨rb, ro, rx, erp, hrb, hrc, -, hrx⟩ := HRAT.out k hlt
        subst ekp erp
        have HB0 : Hid (Below w0.heap.size w0 wr) := Lib.hid (H0.out.trans HSr.out.below)
        have m1 := (HB0.out.cell (p := ⟨kb, ko + k, none⟩) hkb).trans hkc
        have m2 := (HB0.out.cell (p := ⟨rb, ro + k, none⟩) hrb).trans hrc
        have hkb2 : Lt kb wr.heap.size := Nat.lt_of_lt_of_le hkb HB0.out.size
        have hrb2 : Lt rb wr.heap.size := Nat.lt_of_lt_of_le hrb HB0.out.size
        obtain ⟨q, hq, hq100⟩ : ∃ q : Nat, rx = q ∧ q < 100 := by
          have h1 := rowsB_at HRA.out hrx
          unfold rowB at h1
          simp only [Bool.and_eq_true, decide_eq_true_eq] at h1
          have h2 := HSM.out rx (List.mem_of_getElem? hrx)
          exact ⟨rx.toNat, by omega, by omega⟩
        subst hq
        have HOK : Hid (K.ok kx = true) := Lib.hid (keysB_at HKA.out hkx)
        have HNB : Hid (numB (q : Int) 1073741824 = true) := Lib.hid (by unfold numB; simp; omega)
        have hlt2 : (k : Int) < (L : Int) := by omega
        have k0 : (0 : Int) ≤ (k : Int) := by omega
        have hG2 : w0.heap.size ≤ wr.heap.size := Nat.le_trans hG HSr.out.size
        have HZIP : Hid ((x.n.keys.zip x.n.rows).take (k + 1) = (x.n.keys.zip x.n.rows).take k ++ [(kx, (q : Int))]) := Lib.hid (by
          rw [List.take_add_one]
          congr 1
          have : (x.n.keys.zip x.n.rows)[k]? = some (kx, (q : Int)) := by rw [List.getElem?_zip_eq_some]; exact ⟨hkx, hrx⟩
          rw [this]; rfl)
        have HKB := Lib.hid hkb
        have HRB := Lib.hid hrb
        clear hkb hkc hkx hrb hrc hrx
        go_upto_region 10 with (first
          | (go_at_call 74; refine (rkeyK_any K kx _).mono ?_; rw [HOK.out]; rintro e w' ⟨rfl, rfl⟩)
          | (go_at_call 32; refine (numB_any _ _ _).mono ?_; rw [HNB.out]; rintro e w' ⟨rfl, rfl⟩))
        obtain ⟨rv, ys, b1, b2, b3⟩ := HWr.out
        have HB1 := Lib.hid b1
        have HB2 := Lib.hid b2
        have HB3 := Lib.hid b3
        have w5 := b1.cell 5
        have f5 := b1.free 5
        have hwl : Lt wb wr.heap.size := b1.lt
        simp only [List.getElem?_toArray, List.getElem?_cons_succ, List.getElem?_cons_zero] at w5
        have hnl : (s.rows ++ (x.n.keys.zip x.n.rows).take k).length ≤ 102000 := by
          have : (x.n.keys.zip x.n.rows).length ≤ 1000 := by rw [List.length_zip]; have := HL.out; omega
          rw [List.length_append, List.length_take]
          omega
        have n1 : rv.ownBlock ≠ some wb := not_own b3 b1 (by decide)
        have n2 : rv.ownBlock ≠ some W.heap.size := not_own b3 HBr.out (by decide)
        have n3 : rv.ownBlock ≠ some kb := fun e => by have h1 := (World.ownsRow.lt b3 kb e).1; have h2 : kb < w0.heap.size := HKB.out; omega
        have n4 : rv.ownBlock ≠ some rb := fun e => by have h1 := (World.ownsRow.lt b3 rb e).1; have h2 : rb < w0.heap.size := HRB.out; omega
        generalize hnr : (s.rows ++ (x.n.keys.zip x.n.rows).take k).length = nr at *
        have HNR := Lib.hid hnr
        clear b1 b2 b3 hnr
        obtain ⟨C0, hC0⟩ : ∃ C0 : World → Prop, ∀ w9, C0 w9 ↔ (w9.cell? ⟨wb, 5, none⟩ = some rv ∧ w9.cell? ⟨W.heap.size, 0, none⟩ = some (.slice (some ⟨kb, ko, none⟩) L kc) ∧ w9.cell? ⟨W.heap.size, 1, none⟩ = some (.slice (some ⟨rb, ro, none⟩) L rc) ∧ w9.cell? ⟨kb, ko + k, none⟩ = some (.string (K.s kx)) ∧ w9.cell? ⟨rb, ro + k, none⟩ = some (.int .i64 q)) := ⟨_, fun _ => Iff.rfl⟩
        have hCall : ∀ j vs w9, LfPost w0.heap.size wb wr rv nr (K.s kx) j vs w9 → j < 4 → C0 w9 := fun j vs w9 hp hj => (hC0 _).2 ⟨lf_cell hp hj hwl n1 w5, lf_cell hp hj hxl n2 x0, lf_cell hp hj hxl n2 x1, lf_cell hp hj hkb2 n3 m1, lf_cell hp hj hrb2 n4 m2⟩
        refine wp_region_seq [15, 17, 18, 21] [#[.tmp 80], #[.tmp 82], #[.tmp 70, .tmp 83], #[.tmp 86, .tmp 84]] (by kernel_rfl) (by kernel_rfl) (fun vs => by kernel_rfl) (fun w9 => ∃ p : Among C0, w9 = p.w) (fun j vs => match j with
          | 0 => #[.int .i64 q]
          | 1 => #[.agg #[.string (K.s kx), vs.getD 0 undef]]
          | 2 => #[rv, vs.getD 1 undef]
          | _ => #[.pointer (some ⟨wb, 5, none⟩), vs.getD 2 undef]) (LfPost w0.heap.size wb wr rv nr (K.s kx)) rfl (fun j vs w9 hp hj => ⟨⟨w9, hCall j vs w9 hp hj⟩, rfl⟩) (fun j vs w9 hp => lf_len hp) (fun j vs w9 hp hj => lf_ext hG2 HB3.out hnl hp hj) ?hstep ?hwalk
        case hstep =>
          intro j vs w9 o hp hj ho a next hargs hn
          unfold LfPost at hp
          split at hp
          · subst hp
            obtain rfl := Option.some.inj ho
            have e1 : a.eval (.tmp 80) = .int .i64 q := by simpa using congrArg (fun (x : Array Value) => x.getD 0 undef) hargs
            unfold Oper.wp execOp
            have e2 : a.tmps[80]?.getD undef = .int .i64 q := by simpa [go_sem] using e1
            simp [e2, go_sem]
            refine (itoa_any q hq100 _).mono ?_
            rintro e w' ⟨⟨str, rfl⟩, rfl⟩
            exact hn _ _ ⟨⟨str, rfl⟩, rfl⟩
          · obtain ⟨⟨str, rfl⟩, rfl⟩ := hp
            obtain rfl := Option.some.inj ho
            have e1 : a.eval (.tmp 82) = .agg #[.string (K.s kx), .string str] := by simpa using congrArg (fun (x : Array Value) => x.getD 0 undef) hargs
            refine wp_buildSlice _ _ 1 _ rfl #[.string (K.s kx), .string str] i0 _ Tryz.underlying41 HI.out hz0 (by rw [hz1]; decide) (by rw [hz1]; decide) (by simp [e1, hz1, Instr.fill, Value.cells, show Array.range 2 = #[0, 1] by decide]) ?_
            exact hn _ _ ⟨str, rfl, rfl, rfl⟩
          · obtain ⟨str, rfl, rfl, rfl⟩ := hp
            obtain rfl := Option.some.inj ho
            have e1 : a.eval (.tmp 70) = rv := by simpa using congrArg (fun (x : Array Value) => x.getD 0 undef) hargs
            have e2 : a.eval (.tmp 83) = .slice (some ⟨wr.heap.size, 0, none⟩) 1 1 := by simpa using congrArg (fun (x : Array Value) => x.getD 1 undef) hargs
            refine wp_append_own _ (.tmp 70) (.tmp 83) _ rfl w0.heap.size 119 i0 _ 2 32 Tryz.underlying41 HI.out hz0 hz1 hz2 rfl (by decide) rv nr ys e1 (World.ownsRow.alloc (own_below HB3.out (nw_drew (Below.refl _ _))) _) ⟨wr.heap.size, 0, none⟩ 1 1 [.string (K.s kx), .string str] e2 rfl (news2 (by simp [go_sem]) (by simp [go_sem])) (by simp [Value.oneCell']) (by unfold maxLen; omega) (by omega) (by simp; omega) fun v' w' h2 h3 _ => ?_
            exact hn _ _ ⟨str, _, _, rfl, rfl, h2, h3⟩
          · obtain ⟨str, w2, zs, ha, rfl, h2, h3⟩ := hp
            obtain rfl := Option.some.inj ho
            obtain ⟨q1, qc1, rfl⟩ := slice_own6 h2 (Nat.succ_pos _)
            have e1 : a.eval (.tmp 86) = .pointer (some ⟨wb, 5, none⟩) := by simpa using congrArg (fun (x : Array Value) => x.getD 0 undef) hargs
            have e2 : a.eval (.tmp 84) = .slice q1 (nr + 1) qc1 := by simpa using congrArg (fun (x : Array Value) => x.getD 1 undef) hargs
            have hbl := (HB1.out.below (show Below wr.heap.size wr (wr.drew.alloc (.cells #[.string (K.s kx), .string str] 119)) from nw_alloc (nw_drew (Below.refl _ _)) _)).grown h3 n1
            have s5 := hbl.cell 5
            have sf5 := hbl.free 5
            have sl5 := hbl.lt
            simp only [List.getElem?_toArray, List.getElem?_cons_succ, List.getElem?_cons_zero] at s5
            unfold Oper.wp execOp
            have e3 : a.tmps[86]?.getD undef = .pointer (some ⟨wb, 5, none⟩) := by simpa [go_sem] using e1
            have e4 : a.tmps[84]?.getD undef = .slice q1 (nr + 1) qc1 := by simpa [go_sem] using e2
            simp [e3, e4, s5, sf5, go_sem]
            exact hn _ _ ⟨rfl, _, str, _, _, ha, rfl, h2, h3, rfl⟩
          · simp at hj
          · cases hp
        case hwalk =>
          intro vs w9 hp
          obtain ⟨v1, v2, v3, v4, rfl⟩ : ∃ v1 v2 v3 v4, vs = [v1, v2, v3, v4] := lf_four hp
          obtain ⟨rfl, w3, str, w2, zs, rfl, hw2, hown, hgr, rfl⟩ : LfPost w0.heap.size wb wr rv nr (K.s kx) 4 [v1, v2, v3, v4] w9 := hp
          simp only [opsSeq, dum, posOf, Nat.reduceAdd, Nat.reduceEqDiff, if_false, if_true, Option.map_none, Option.map_some, List.getD_cons_zero, List.getD_cons_succ]
          have c0 : ∀ p : Among C0, p.w.cell? ⟨wb, 5, none⟩ = some rv := fun p => ((hC0 _).1 p.ok).1
          have c1 : ∀ p : Among C0, p.w.cell? ⟨W.heap.size, 0, none⟩ = some (.slice (some ⟨kb, ko, none⟩) L kc) := fun p => ((hC0 _).1 p.ok).2.1
          have c2 : ∀ p : Among C0, p.w.cell? ⟨W.heap.size, 1, none⟩ = some (.slice (some ⟨rb, ro, none⟩) L rc) := fun p => ((hC0 _).1 p.ok).2.2.1
          have c3 : ∀ p : Among C0, p.w.cell? ⟨kb, ko + k, none⟩ = some (.string (K.s kx)) := fun p => ((hC0 _).1 p.ok).2.2.2.1
          have c4 : ∀ p : Among C0, p.w.cell? ⟨rb, ro + k, none⟩ = some (.int .i64 q) := fun p => ((hC0 _).1 p.ok).2.2.2.2
          have hinh : Nonempty (Among C0) := ⟨⟨wr, (hC0 _).2 ⟨w5, x0, x1, m1, m2⟩⟩⟩
          (repeat (first | go_big_quiet_skip | quiet_step (fail)))
          subst hw2
          obtain ⟨z1, z2⟩ := lf_step (d := d) (seen := s.seen) (rows' := s.rows ++ (x.n.keys.zip x.n.rows).take (k + 1)) hG2 hwb hne HB1.out HB2.out HB3.out hown hgr (by rw [HZIP.out, ← List.append_assoc, List.length_append, HNR.out]; rfl)
          have HZ1 := Lib.hid z1
          have HZ2 := Lib.hid (HSr.out.trans z2)
          have HZ3 := Lib.hid (z2.blc _ _ _ HBr.out hne2.symm hne3 (by decide))
          refine ⟨fun j hj => ?_, ?_⟩
          · match j, hj with
            | 0, _ => simp [go_sem]
            | 1, _ => simp [go_sem]
            | 2, _ => simp [go_sem]
            | 3, _ => simp [go_sem]
          · clear z1 z2
            go_wp2
            go_roundg (L - k)
            · exact ⟨k + 1, by omega, by omega, by simp, HZ1, HZ2, HZ3⟩
            · omega
      · obtain rfl : k = L := by omega
        have hnlt : ¬ (k : Int) < (k : Int) := by omega
        go_wp2
        go_end0
        refine ⟨rfl, Lib.hid ⟨?_, HSr.out⟩⟩
        have := HWr.out
        rw [List.take_of_length_le (by rw [List.length_zip, HRK.out, HL.out]; omega)] at this
        exact this
end Go.Proofs.YtaophiknldkfdaaGreatDoor
