/- CodeBack returns true. No condition. -/
import Derived.Test.YtaelgappabecgaaCoRows
import Derived.Deep.DeepCutAuto
import Derived.Deep.CutBlock
import Derived.Deep.CutRange
namespace Go.Proofs.Ytaelgappabecgaa
open Go.RowKit

theorem run_append_zero {P : Program} {w : World} (base : Nat) (t ty e : TypeId) (i : TypeInfo) (size : Nat) (ht : P.underlying t = some (.slice e)) (hi : P.info? e = some i)
    (v : Value) (n : Nat) (xs : List Value) (hown : w.ownsRow base e size v n xs) (p : Option Addr) (c : Nat) :
    (Builtin.append_ #[t, t] ty #[v, .slice p 0 c]).run P w = .ok v w := by
  rcases hown.2 with ⟨rfl, rfl⟩ | ⟨g, cap, cur, rfl, _, _, hnc, _⟩
  · cases p <;> simp [Builtin.append_, run_underlying ht, sizeOf, typeInfo, hi, Builtin.lenOf, Builtin.firstCells, loadCells, loadCellsFrom]
  · cases p <;> simp [Builtin.append_, run_underlying ht, sizeOf, typeInfo, hi, Builtin.lenOf, Builtin.firstCells, hnc, storeCells, loadCells, loadCellsFrom]
theorem run_app_strs {w : World} (base : Nat) (ty : TypeId) (v : Value) (n : Nat) (xs : List Value) (hown : w.ownsRow base 9 1 v n xs) (x : Value) (T : List ByteArray) (hx : SsAt w x T) (hn : n + T.length ≤ 1000000) (hbase : base ≤ w.heap.size) :
    ∃ v' w', (Builtin.append_ #[23, 23] ty #[v, x]).run Try.prog w = .ok v' w' ∧ w'.ownsRow base 9 1 v' (n + T.length) (xs ++ T.map Value.string) ∧ w.grownBy w' v.ownBlock := by
  obtain ⟨i0, hi, hz0, hz1, hz2⟩ := info_parts info_string
  rcases hx.form with ⟨rfl, p, c, rfl⟩ | ⟨b, off, c, rfl, hp, hc, hb, hcell⟩
  · refine ⟨v, w, run_append_zero base _ ty _ i0 1 Try.underlying23 hi v n xs hown p c, ?_, ⟨rfl, rfl, rfl, Nat.le_refl _, fun _ _ _ => rfl⟩⟩
    rw [List.map_nil, List.append_nil]; exact hown
  · obtain ⟨v', w', h1, h2, h3, -⟩ := run_append_own (P := Try.prog) w base 23 ty 9 i0 (.string { data := #[] }) 1 16 Try.underlying23 hi hz0 hz1 hz2 rfl (by decide) v n xs hown ⟨b, off, none⟩ T.length c (T.map Value.string) (by simp) (newsS hcell) (newsS_one T) (by unfold maxLen; omega) (by omega) hbase
    exact ⟨v', w', h1, h2, h3⟩
theorem step_app_strs {w : World} {ops : Array Oper} {o : Oper} {a : Act} {K : Act → World → Prop} {Q : Exit → Act → World → Prop} {E : Prop} (hgd : o.guard = none) (s x : Operand)
    (ho : o.op = .call { callee := .builtin .append, args := #[s, x], argTypes := #[23, 23] })
    (base : Nat) (v : Value) (n : Nat) (xs : List Value) (hs : a.eval s = v) (hown : w.ownsRow base 9 1 v n xs) (xv : Value) (T : List ByteArray) (hxe : a.eval x = xv) (hx : SsAt w xv T) (hn : n + T.length ≤ 1000000) (hbase : base ≤ w.heap.size)
    (h : ∀ v' w', w'.ownsRow base 9 1 v' (n + T.length) (xs ++ T.map Value.string) → w.grownBy w' v.ownBlock → K (a.put o.dst v') w') :
    if Region.wanted o (yielded ops a.tmps) = true then Oper.wp Try.prog o a w K Q else E := by
  have hw : Region.wanted o (yielded ops a.tmps) = true := by simp [Region.wanted, hgd]
  rw [if_pos hw]
  obtain ⟨v', w', hr, h2, h3⟩ := run_app_strs base o.type v n xs hown xv T hx hn hbase
  unfold Oper.wp execOp
  simp only [ho, resolve, invoke, builtin, Sem.run_bind, Sem.run_pure, Result.andThen_ok, List.map_toArray, List.map_cons, List.map_nil, hs, hxe, hr]
  exact h v' w' h2 h3
theorem own_le {w : World} {B B' : Nat} {e : TypeId} {s : Nat} {v : Value} {n : Nat} {xs : List Value} (h : w.ownsRow B e s v n xs) (hb : B' ≤ B) : w.ownsRow B' e s v n xs :=
  ⟨h.1, h.2.elim Or.inl (fun ⟨g, cap, cur, hv, hg, r⟩ => Or.inr ⟨g, cap, cur, hv, Nat.le_trans hb hg, r⟩)⟩
/-- The texts behind one of them. -/
theorem SsAt.rest {w : World} {b off n cap : Nat} {S : List ByteArray} (h : SsAt w (.slice (some ⟨b, off, none⟩) n cap) S) (m : Nat) (hm : m ≤ S.length) : SsAt w (.slice (if cap = m then some ⟨b, off, none⟩ else some ⟨b, off + m, none⟩) (n - m) (cap - m)) (S.drop m) := by
  have hd := h.drop m hm
  by_cases hc : cap = m
  · obtain ⟨-, -, p', cap', h1, h3, -⟩ := h
    simp only [Value.slice.injEq] at h1
    obtain ⟨-, rfl, rfl⟩ := h1
    have hl : S.length = m := by omega
    have h0 : S.drop m = [] := by rw [← hl, List.drop_length]
    rw [if_pos hc, h0, hl, Nat.sub_self]
    exact SsAt.nil _ _ _
  · rw [if_neg hc]; exact hd
/-- The first of the records that the call owns. -/
theorem RdI.head {B : Nat} {w : World} {v : Value} {y : Rv} {P : List Rv} (h : RdI B w v (y :: P)) : ∃ g cap, v = .slice (some ⟨g, 0, none⟩) (P.length + 1) cap ∧ Lt g w.heap.size ∧ w.cell? ⟨g, 0, none⟩ = some (.int .i64 y.c) ∧ w.cell? ⟨g, 1, none⟩ = some y.v := by
  rcases h.row.2 with ⟨-, h0⟩ | ⟨g, cap, cur, e, hb, hg, hc, -⟩
  · simp at h0
  · subst e
    have h0 := h.row.cellAt 0 (by simp)
    have h1 := h.row.cellAt 1 (by simp; omega)
    exact ⟨g, cap, rfl, (Array.getElem?_eq_some_iff.1 hg).1, by rw [h0]; rfl, by rw [h1]; rfl⟩

set_option maxRecDepth 100000 in
set_option maxHeartbeats 64000000 in
theorem codeBack_any (w : World) (rv sv lv : Value) (np : Option Addr) (nn nc : Nat) (R : List Rv) (S : List ByteArray) (Q : List (Value × List ByteArray)) (hnn : nn ≤ 140737488355328) (hr : RcAt w rv R) (hs : SsAt w sv S) (hq : LsAt w lv Q) :
    Calls Try.prog 3 #[.agg #[rv, sv, .slice np nn nc, lv]] w fun e w' => e = .returned (.bool true) ∧ Below w.heap.size w w' := by
  have HH := Lib.hid (fun (w' : World) (hb : Below w.heap.size w w') => heavy_any w' rv sv lv np nn nc R S Q hnn (hr.below hb) (hs.below hb) (hq.below hb))
  obtain ⟨rp, rc, rfl, hrl, -⟩ := hr.at
  obtain ⟨sp, sc, rfl, -⟩ := hs.slice
  obtain ⟨lp, lc, rfl, -, -⟩ := hq.at
  have HRC := Lib.hid hr
  have HSC := Lib.hid hs
  clear hr hs hq
  go_enter Try.func3, Try.ntmps3
  go_wp2_with fail
  obtain ⟨W0, hW0⟩ : ∃ W0, W0 = w.alloc (Obj.cells #[.slice rp R.length rc, .slice sp S.length sc, .slice np nn nc, .slice lp Q.length lc] 27) := ⟨_, rfl⟩
  rw [← hW0]
  have hbw : Below w.heap.size w W0 := by subst hW0; (repeat (first | exact Below.refl _ _ | assumption | refine nw_more ?_ _ _ | refine nw_alloc ?_ _ | refine nw_drew ?_ | refine nw_drewN ?_ _ | refine nw_set ?_ (by first | (simp; done) | (simp; omega) | omega) _))
  have hbx : Blc W0 w.heap.size 27 #[.slice rp R.length rc, .slice sp S.length sc, .slice np nn nc, .slice lp Q.length lc] := by subst hW0; (repeat (first | exact Blc.newAt _ _ _ (by simp; done) | refine Blc.alloc ?_ _ | refine Blc.mre ?_ _ _))
  have hz0 : W0.heap.size = w.heap.size + 1 := by subst hW0; simp
  have HBW := Lib.hid hbw
  have HZ0 := Lib.hid hz0
  have HBX := Lib.hid hbx
  have HR0 := Lib.hid (HRC.out.below hbw)
  have HS0 := Lib.hid (HSC.out.below hbw)
  refine (HH.out W0 hbw).mono ?_
  clear hW0 hbw hbx HH HRC HSC hz0
  rintro e w1 ⟨b0, rfl, hSl, hb⟩
  have HB1 := Lib.hid hb
  clear hb
  cases b0
  case true =>
    go_wp2
    go_ret
    exact ⟨rfl, HBW.out.trans (HB1.out.mono (by have := HZ0.out; omega))⟩
  case false =>
  have hS6 : S.length ≤ 6000 := hSl rfl
  clear hSl
  have HX : Hid (∀ wx, Below W0.heap.size W0 wx → wx.cell? ⟨w.heap.size, 0, none⟩ = some (.slice rp R.length rc) ∧ wx.cell? ⟨w.heap.size, 1, none⟩ = some (.slice sp S.length sc) ∧ Lt w.heap.size wx.heap.size) := Lib.hid (fun wx hb => by
    have h1 := HBX.out.below hb
    have h2 := h1.cell 0
    have h3 := h1.cell 1
    exact ⟨by simpa using h2, by simpa using h3, h1.lt⟩)
  go_wp2_with fail
  go_loopg [3] 7 (fun g s3 wr => ∃ (i : Nat), g + i = 7 ∧ i ≤ 6 ∧ s3 = .int .i64 i ∧ Hid (Below W0.heap.size W0 wr))
  case atStart => exact ⟨0, rfl, by omega, rfl, HB1⟩
  case round =>
    clear HB1
    obtain ⟨i, hg, hi6, rfl, HB⟩ := hrel
    obtain rfl : gk = 7 - i := by omega
    clear hg
    obtain ⟨x0, x1, xlt⟩ := HX.out _ HB.out
    by_cases hlt : i < R.length ∧ i < 6
    · obtain ⟨hi1, hi2⟩ := hlt
      have hi1i : (i : Int) < (R.length : Int) := by omega
      have hi2i : (i : Int) < 6 := by omega
      have hi2d : decide ((i : Int) < 6) = true := decide_eq_true hi2i
      obtain ⟨rp', rc', e9, -, hrat⟩ := (HR0.out.below HB.out).at
      simp only [Value.slice.injEq] at e9
      obtain ⟨rfl, -, rfl⟩ := e9
      obtain ⟨b, off, x, rfl, hb, c0, c1, hws, -, hxk⟩ := hrat i hi1
      obtain ⟨yc, yv, yl⟩ := x
      dsimp only at c0 c1 hws
      obtain ⟨yp, ycap, rfl, -⟩ := hws.slice
      have HWS := Lib.hid hws
      have HXK := Lib.hid hxk
      obtain ⟨ok, hok⟩ : ∃ ok, rOk yc yl = ok := ⟨_, rfl⟩
      have HSEC : Hid (∀ X, WsAt X (.slice yp yl.length ycap) yl → Calls Try.prog 7 #[.agg #[.int .i64 yc, .slice yp yl.length ycap], .int .i64 5, .int .i64 9] X fun e w' => ∃ u, e = .returned (.tuple #[u, .int .i64 (if ok then 0 else 1)]) ∧ OwnS X.heap.size w' u (if ok then secs (rBytes yc yl) 5 9 else []) ∧ Below X.heap.size X w') := Lib.hid (fun X h => by
        have h1 := sectors_any X yc _ yl 5 9 h (by omega) (by omega)
        rw [hok] at h1
        exact h1)
      have HOK := Lib.hid hok
      clear hws hrat hok hxk
      cases ok
      case false =>
        go_wp2_with fail
        refine (HSEC.out _ HWS.out).mono ?_
        rintro e w2 ⟨u, rfl, -, hb2⟩
        have HB2 : Hid (Below W0.heap.size W0 w2) := Lib.hid (HB.out.trans (hb2.mono HB.out.size))
        clear hb2 HB
        go_wp2_with (first | (go_at_call 8; refine (num17_any _ _).mono ?_; rintro e w' ⟨rfl, rfl⟩))
        go_roundg (7 - i - 1)
        case measure => omega
        case rel => exact ⟨i + 1, by omega, by omega, by go_num, HB2⟩
      case true =>
        simp only [if_true] at HSEC
        go_wp2_with fail
        refine (HSEC.out _ HWS.out).mono ?_
        rintro e w2 ⟨u, rfl, hou, hb2⟩
        have hb02 : Below W0.heap.size W0 w2 := HB.out.trans (hb2.mono HB.out.size)
        obtain ⟨hnp1, hnp2⟩ := nParts_ok HOK.out
        have hsl : (secs (rBytes yc yl) 5 9).length = nParts (rBytes yc yl) := secs_len _ _ _
        have hL := hou.at (by rw [hsl]; omega) (fun s hs => by rw [secs_size hs]; omega)
        rcases hL.form with ⟨h0, -⟩ | ⟨g, go, gc, rfl, -, hcap, -, -⟩
        · rw [h0] at hsl; simp at hsl; omega
        have HF1 : Hid (∀ more, firstP (secs (rBytes yc yl) 5 9 ++ more) 5 9 = some ((yc, yl), (secs (rBytes yc yl) 5 9).length)) := Lib.hid (fun more => by rw [hsl]; exact firstP_secs HOK.out 5 9 more)
        have HF2 : Hid (firstP (secs (rBytes yc yl) 5 9) 6 9 = none) := Lib.hid (firstP_other HOK.out (by omega) (by omega) (by omega) (by omega) (by omega))
        have HF3 : Hid (firstP (secs (rBytes yc yl) 5 9) 5 8 = none) := Lib.hid (firstP_other HOK.out (by omega) (by omega) (by omega) (by omega) (by omega))
        have HF4 : Hid (∀ k, k < (secs (rBytes yc yl) 5 9).length → firstP ((secs (rBytes yc yl) 5 9).take k ++ (secs (rBytes yc yl) 5 9).drop (k + 1)) 5 9 = none) := Lib.hid (fun k hk => firstP_lost HOK.out 5 9 k (by rw [← hsl]; exact hk))
        have HSZ : Hid (∀ s ∈ secs (rBytes yc yl) 5 9, s.size = 32) := Lib.hid (fun s hs => secs_size hs)
        rw [← hsl] at hnp1 hnp2
        generalize secs (rBytes yc yl) 5 9 = SS at *
        have HL := Lib.hid hL
        have HB2 := Lib.hid hb02
        have HW2 := Lib.hid (HWS.out.below hb2)
        clear hou hb2 hb02 hsl hL HB HWS HSEC c0 c1 hb x0 x1 xlt
        obtain ⟨x0, x1, xlt⟩ := HX.out _ HB2.out
        have hz2 := HB2.out.size
        go_upto_region 8 with (first | (go_at_call 8; refine (num17_any _ _).mono ?_; rintro e w' ⟨rfl, rfl⟩))
        go_cut [6] from 23 to 159 (fun s6 wx => Hid (SsAt wx s6 (SS ++ S)) ∧ Hid (Below W0.heap.size W0 wx) ∧ Hid (Below w2.heap.size w2 wx))
        case first =>
          have HC0 := Lib.hid (nw_drew (Below.refl w2.heap.size w2))
          go_region_law (first | (refine step_app_strs rfl (.tmp 47) (.tmp 49) rfl w2.heap.size _ SS.length (SS.map Value.string) rfl HO9.out _ S rfl (HS0.out.below (HB2.out.trans (HB9.out.mono hz2))) (by omega) HB9.out.size ?_; intro V w3 hown hgrow; have HV : Hid (OwnS w2.heap.size w3 V (SS ++ S)) := Lib.hid (OwnS.app hown rfl); have HB3 : Hid (Below w2.heap.size w2 w3) := Lib.hid (below_append HB9.out HO9.out hgrow); clear hown hgrow) | (rw [if_pos (by simp [Region.wanted])]; unfold Oper.wp execOp; simp [go_sem]; refine (copyStrings_any _ _ SS (HL.out.below HC0.out) (by omega)).mono ?_; rintro e w9 ⟨u9, rfl, ho9, hb9⟩; obtain ⟨q9, c9, rfl⟩ := ho9.form; have HO9 : Hid (OwnS w2.heap.size w9 (.slice q9 SS.length c9) SS) := Lib.hid ho9; have HB9 : Hid (Below w2.heap.size w2 w9) := Lib.hid (HC0.out.trans hb9); clear x0 x1 xlt; obtain ⟨x0, x1, xlt⟩ := HX.out _ (HB2.out.trans (HB9.out.mono hz2)); clear ho9 hb9))
          all_goals
            go_wp2_with fail
            go_meet
            exact ⟨Lib.hid (HV.out.at (by rw [List.length_append]; omega) (fun s hs => by rcases List.mem_append.1 hs with hs | hs; rw [HSZ.out s hs]; omega; exact HS0.out.2.1 s hs)), Lib.hid (HB2.out.trans (HB3.out.mono hz2)), HB3⟩
        case rest =>
          obtain ⟨HM, HB3, HB23⟩ := hcut
          obtain ⟨rest, cnt, hrp, hcnt⟩ : ∃ rest cnt, readP ((SS ++ S).length + 1) (SS ++ S) 5 9 = ((yc, yl) :: rest, cnt) ∧ SS.length ≤ cnt :=
            ⟨_, _, by rw [readP, if_pos (by omega), HF1.out], by omega⟩
          have hml : (SS ++ S).length ≤ 1000000 := by rw [List.length_append]; omega
          go_wp2_with fail
          refine (read_any _ _ (SS ++ S) 5 9 HM.out hml (by omega) (by omega)).mono ?_
          rw [hrp]
          rintro e w4 ⟨v4, P4, rfl, hp4, hrd4, hb4⟩
          dsimp only at hp4
          obtain ⟨⟨c', v', l'⟩, P5, rfl, hy0, -⟩ := List.map_eq_cons_iff.1 hp4
          simp only [Rv.pl, Prod.mk.injEq] at hy0
          obtain ⟨e1, e2⟩ := hy0
          rw [e1, e2] at hrd4
          obtain ⟨g4, cp4, rfl, hg4, k0, k1⟩ := hrd4.head
          dsimp only at k0 k1
          have hwv : WsAt w4 v' yl := (hrd4.each ⟨yc, v', yl⟩ (by simp)).at (by obtain ⟨-, -, h2, h3⟩ := rOk_parts HOK.out; show yl.length ≤ _; omega) (fun y hy => by obtain ⟨-, -, h2, h3⟩ := rOk_parts HOK.out; exact wOk_small (List.all_eq_true.1 h3 y hy))
          obtain ⟨vp, vc, rfl, -⟩ := hwv.slice
          have HWV := Lib.hid hwv
          have HB4 : Hid (Below W0.heap.size W0 w4) := Lib.hid (HB3.out.trans (hb4.mono HB3.out.size))
          have HB24 : Hid (Below w2.heap.size w2 w4) := Lib.hid (HB23.out.trans (hb4.mono HB23.out.size))
          obtain ⟨m4, hm4, hm40⟩ : ∃ m, P5.length + 1 = m ∧ 0 < m := ⟨_, rfl, by omega⟩
          rw [hm4]
          have hm4i : ¬ ((m4 : Int) = 0) := by omega
          have hm4b : ((m4 : Int) == 0) = false := by simp; omega
          have hcn : ¬ ((cnt : Int) < (SS.length : Int)) := by omega
          have hcnd : decide (cnt < SS.length) = false := decide_eq_false (by omega)
          clear hp4 hrp hb4 hrd4 hwv HB3 HB23 HM e1 e2 hm4 x0 x1 xlt hml
          obtain ⟨x0, x1, xlt⟩ := HX.out _ HB4.out
          obtain ⟨rp', rc', e9, -, hrat⟩ := (HR0.out.below HB4.out).at
          simp only [Value.slice.injEq] at e9
          obtain ⟨rfl, -, rfl⟩ := e9
          obtain ⟨b', off', x, e10, hb, c0, c1, hws, -, hxk2⟩ := hrat i hi1
          simp only [Option.some.injEq, Addr.mk.injEq, and_true] at e10
          obtain ⟨rfl, rfl⟩ := e10
          rw [HXK.out] at hxk2
          obtain rfl := Option.some.inj hxk2
          dsimp only at c0 c1 hws
          have HWR := Lib.hid hws
          clear hrat hws hxk2
          go_upto_region 10 with (first | (go_at_call 8; refine (num17_any _ _).mono ?_; rintro e w' ⟨rfl, rfl⟩))
          (refine wp_region_quiet_more (by kernel_rfl) (by kernel_rfl) ?_; (repeat (first | go_big_quiet_skip | quiet_step ((first | (go_at_call 8; exact Calls.more_same_int _ rfl (num17_any _ _)) | (go_at_call 11; exact Calls.more_of (eqRecord_same _ _ _ _ yl (HWV.out.below (by (repeat (first | exact Below.refl _ _ | assumption | refine nw_more ?_ _ _ | refine nw_alloc ?_ _ | refine nw_drew ?_ | refine nw_drewN ?_ _ | refine nw_set ?_ (by first | (simp; done) | (simp; omega) | omega) _)))) (HWR.out.below (by (repeat (first | exact Below.refl _ _ | assumption | refine nw_more ?_ _ _ | refine nw_alloc ?_ _ | refine nw_drew ?_ | refine nw_drewN ?_ _ | refine nw_set ?_ (by first | (simp; done) | (simp; omega) | omega) _)))))))))); refine wpQuiet_nil ?_; intro _ hw'; obtain ⟨⟨nq, esq⟩, hw''⟩ := hw'; subst hw''; dsimp only)
          have HB5 : Hid (Below W0.heap.size W0 (more w4 nq esq)) := Lib.hid (nw_more HB4.out _ _)
          have HB25 : Hid (Below w2.heap.size w2 (more w4 nq esq)) := Lib.hid (nw_more HB24.out _ _)
          generalize more w4 nq esq = w5 at *
          clear HWV HWR HB4 HB24 k0 k1 hg4 c0 c1 hb x0 x1 xlt hcn hcnd hm4i hm4b
          go_wp2_with fail
          go_loopg [10] (SS.length + 1) (fun g s10 wr => ∃ (k : Nat), g + k = SS.length + 1 ∧ k ≤ SS.length ∧ s10 = .int .i64 k ∧ Hid (Below W0.heap.size W0 wr) ∧ Hid (Below w2.heap.size w2 wr))
          case atStart => exact ⟨0, by omega, by omega, rfl, HB5, HB25⟩
          case round =>
            clear HB5 HB25
            obtain ⟨k, hg, hk6, rfl, HB, HB2k⟩ := hrel
            obtain rfl : gk = SS.length + 1 - k := by omega
            clear hg
            by_cases hk : k < SS.length
            · have hki : (k : Int) < (SS.length : Int) := by omega
              have hLk := HL.out.below HB2k.out
              obtain ⟨lp', lc', e9, -, -, hLa⟩ := hLk.at
              simp only [Value.slice.injEq] at e9
              obtain ⟨rfl, -, rfl⟩ := e9
              obtain ⟨b9, off9, s9, e10, hb9, hc9, -, hg9, -⟩ := hLa k hk
              simp only [Option.some.injEq, Addr.mk.injEq, and_true] at e10
              obtain ⟨rfl, rfl⟩ := e10
              have hs9 : s9.size = 32 := HSZ.out s9 (List.mem_of_getElem? hg9)
              have HLK := Lib.hid hLk
              clear hLa hLk hg9
              go_upto_region 17 with (fail)
              go_cut [11] from 83 to 121 (fun s11 wx => Hid (SsAt wx s11 (SS.take k ++ SS.drop (k + 1))) ∧ Hid (Below W0.heap.size W0 wx) ∧ Hid (Below w2.heap.size w2 wx))
              case first =>
                have HC0 := Lib.hid (nw_drew HB2k.out)
                obtain ⟨dp, hdp⟩ : ∃ dp, (if gc = k + 1 then some ⟨g, go, none⟩ else some ⟨g, go + (k + 1), none⟩ : Option Addr) = dp := ⟨_, rfl⟩
                have HDR : Hid (∀ wx, Below w2.heap.size w2 wx → SsAt wx (.slice dp (SS.length - (k + 1)) (gc - (k + 1))) (SS.drop (k + 1))) := Lib.hid (fun wx hb => by
                  have h1 := (HL.out.below hb).rest (k + 1) hk
                  rwa [hdp] at h1)
                have hwr : IntKind.i64.wrap ((k : Int) + 1) = (k : Int) + 1 := IntWalk.i64_in _ (by omega)
                have htn : ((k : Int) + 1).toNat = k + 1 := by omega
                have hk0i : (0 : Int) ≤ (k : Int) + 1 := by omega
                have hk1i : (k : Int) + 1 ≤ (SS.length : Int) := by omega
                have hkci : (k : Int) ≤ (gc : Int) := by omega
                have htl : (SS.take k).length = k := by rw [List.length_take]; omega
                have hdl : (SS.drop (k + 1)).length ≤ 1000 := by rw [List.length_drop]; omega
                have HTL := Lib.hid htl
                have HDL := Lib.hid hdl
                have HCAT : Hid (∀ (wx : World) (V : Value), wx.ownsRow w2.heap.size 9 1 V (k + (SS.drop (k + 1)).length) ((SS.take k).map Value.string ++ (SS.drop (k + 1)).map Value.string) → SsAt wx V (SS.take k ++ SS.drop (k + 1))) := Lib.hid (fun wx V h => (OwnS.app h (by rw [htl])).at (by rw [List.length_append, htl]; omega) (fun s hs => by
                  have hm : s ∈ SS := by
                    rcases List.mem_append.1 hs with hs | hs
                    · exact List.mem_of_mem_take hs
                    · exact List.mem_of_mem_drop hs
                  rw [HSZ.out s hm]; omega))
                clear hc9 hb9 hs9 hki htl hdl
                go_region_law (first | (refine step_app_strs rfl (.tmp 98) (.tmp 102) rfl w2.heap.size _ k ((SS.take k).map Value.string) rfl HO9.out _ (SS.drop (k + 1)) rfl (HDR.out _ HB9.out) (by have := HDL.out; omega) HB9.out.size ?_; intro V w3 hown hgrow; have HV : Hid (SsAt w3 V (SS.take k ++ SS.drop (k + 1))) := Lib.hid (HCAT.out _ _ hown); have HB3 : Hid (Below w2.heap.size w2 w3) := Lib.hid (below_append HB9.out HO9.out hgrow); clear hown hgrow) | (rw [if_pos (by simp [Region.wanted])]; unfold Oper.wp execOp; simp [go_sem]; refine (copyStrings_any _ _ (SS.take k) ((HL.out.below HC0.out).take k hk6) (by rw [HTL.out]; omega)).mono ?_; rintro e w9 ⟨u9, rfl, ho9, hb9⟩; have HO9 : Hid (w9.ownsRow w2.heap.size 9 1 u9 k ((SS.take k).map Value.string)) := Lib.hid (by have h := own_le ho9 HC0.out.size; rwa [HTL.out] at h); have HB9 : Hid (Below w2.heap.size w2 w9) := Lib.hid (nw_trans HC0.out hb9); clear ho9 hb9))
                all_goals
                  go_wp2_with fail
                  go_meet
                  exact ⟨HV, Lib.hid (HB2.out.trans (HB3.out.mono hz2)), HB3⟩
              case rest =>
                clear hc9 hb9 hs9 HLK HB HB2k
                obtain ⟨HM, HB3, HB23⟩ := hcut
                have hrp : readP ((SS.take k ++ SS.drop (k + 1)).length + 1) (SS.take k ++ SS.drop (k + 1)) 5 9 = ([], 0) := readP_none (HF4.out k hk)
                have hml : (SS.take k ++ SS.drop (k + 1)).length ≤ 1000000 := by rw [List.length_append, List.length_take, List.length_drop]; omega
                have HRP := Lib.hid hrp
                have HML := Lib.hid hml
                clear hrp hml
                go_wp2_with fail
                refine (read_any _ _ (SS.take k ++ SS.drop (k + 1)) 5 9 HM.out HML.out (by omega) (by omega)).mono ?_
                rw [HRP.out]
                rintro e w6 ⟨v6, P6, rfl, hp6, hrd6, hb6⟩
                dsimp only at hp6
                obtain rfl := List.map_eq_nil_iff.1 hp6
                obtain ⟨v6p, v6c, rfl⟩ := hrd6.row.slice
                have HB6 : Hid (Below W0.heap.size W0 w6) := Lib.hid (HB3.out.trans (hb6.mono HB3.out.size))
                have HB26 : Hid (Below w2.heap.size w2 w6) := Lib.hid (HB23.out.trans (hb6.mono HB23.out.size))
                clear hp6 hrd6 hb6 HB3 HB23 HM HRP HML
                go_wp2_with (first | (go_at_call 8; refine (num17_any _ _).mono ?_; rintro e w' ⟨rfl, rfl⟩))
                go_roundg (SS.length + 1 - k - 1)
                case measure => omega
                case rel => exact ⟨k + 1, by omega, by omega, by go_num, HB6, HB26⟩
            · obtain rfl : k = SS.length := by omega
              have hki : ¬ (SS.length : Int) < (SS.length : Int) := by omega
              have HLK := Lib.hid (HL.out.below HB2k.out)
              have HR2 : Hid (readP (SS.length + 1) SS 6 9 = ([], 0)) := Lib.hid (readP_none HF2.out)
              have HR3 : Hid (readP (SS.length + 1) SS 5 8 = ([], 0)) := Lib.hid (readP_none HF3.out)
              clear hk hk6 HF1 HF2 HF3 HF4 HSZ HL HB2k
              go_wp2_with fail
              refine (read_any _ _ SS 6 9 HLK.out (by omega) (by omega) (by omega)).mono ?_
              rw [HR2.out]
              rintro e w6 ⟨v6, P6, rfl, hp6, hrd6, hb6⟩
              dsimp only at hp6
              obtain rfl := List.map_eq_nil_iff.1 hp6
              obtain ⟨v6p, v6c, rfl⟩ := hrd6.row.slice
              have HB6 : Hid (Below W0.heap.size W0 w6) := Lib.hid (HB.out.trans (hb6.mono HB.out.size))
              have HLK6 := Lib.hid (HLK.out.below hb6)
              clear hp6 hrd6 hb6 HB HLK HR2
              go_wp2_with fail
              refine (read_any _ _ SS 5 8 HLK6.out (by omega) (by omega) (by omega)).mono ?_
              rw [HR3.out]
              rintro e w7 ⟨v7, P7, rfl, hp7, hrd7, hb7⟩
              dsimp only at hp7
              obtain rfl := List.map_eq_nil_iff.1 hp7
              obtain ⟨v7p, v7c, rfl⟩ := hrd7.row.slice
              have HB7 : Hid (Below W0.heap.size W0 w7) := Lib.hid (HB6.out.trans (hb7.mono HB6.out.size))
              clear hp7 hrd7 hb7 HB6 HLK6 HR3
              go_wp2_with (first | (go_at_call 8; refine (num17_any _ _).mono ?_; rintro e w' ⟨rfl, rfl⟩))
              go_roundg (7 - i - 1)
              case measure => omega
              case rel => exact ⟨i + 1, by omega, by omega, by go_num, HB7⟩
    · have hex : ¬ i < R.length ∨ (i < R.length ∧ ¬ i < 6) := by omega
      clear hlt
      rcases hex with hx | ⟨hx, hx6⟩
      all_goals
        first
          | (have hi1i : ¬ (i : Int) < (R.length : Int) := by omega)
          | (have hi1i : (i : Int) < (R.length : Int) := by omega
             have hi2i : ¬ (i : Int) < 6 := by omega
             have hi2d : decide ((i : Int) < 6) = false := decide_eq_false hi2i)
        go_wp2_with (first | (go_at_call 12; refine (wakes17_any _).mono ?_; (rintro e w' ⟨rfl, hb⟩; obtain ⟨n, es, rfl⟩ := below_more hb; clear hb)))
        go_ret
        refine ⟨rfl, ?_⟩
        have hb1 : Below w.heap.size w wr := HBW.out.trans (HB.out.mono (by have := HZ0.out; omega))
        (repeat (first | exact Below.refl _ _ | assumption | refine nw_more ?_ _ _ | refine nw_alloc ?_ _ | refine nw_drew ?_ | refine nw_drewN ?_ _ | refine nw_set ?_ (by first | (simp; done) | (simp; omega) | omega) _))
end Go.Proofs.Ytaelgappabecgaa
