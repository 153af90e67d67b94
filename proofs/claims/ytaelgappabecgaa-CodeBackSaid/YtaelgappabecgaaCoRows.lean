/- CodeRows returns true. No condition. -/
import Derived.Test.YtaelgappabecgaaCoM
import Derived.Test.YtaelgappabecgaaCoPure
import Derived.Test.YtaelgappabecgaaCoW
namespace Go.Proofs.Ytaelgappabecgaa
open Go.RowKit

theorem newsS {w : World} {b off : Nat} {S : List ByteArray} (h : ∀ j, j < S.length → w.cell? ⟨b, off + j, none⟩ = some (.string (S.getD j E0))) : ∀ (j : Nat) (u : Value), (S.map Value.string)[j]? = some u → w.cell? ((⟨b, off, none⟩ : Addr).add j) = some u := by
  intro j u hj
  rw [List.getElem?_map] at hj
  cases hx : S[j]? with
  | none => rw [hx] at hj; cases hj
  | some x =>
    rw [hx] at hj
    have hjl : j < S.length := (List.getElem?_eq_some_iff.1 hx).1
    rw [add_none, h j hjl, ← hj]
    simp [List.getD, hx]
theorem newsS_one (S : List ByteArray) : ∀ u ∈ S.map Value.string, u.oneCell' = true := by
  intro u hu; obtain ⟨x, -, rfl⟩ := List.mem_map.1 hu; rfl
theorem OwnS.app {B : Nat} {w : World} {v : Value} {S T : List ByteArray} {n : Nat} (h : w.ownsRow B 9 1 v n (S.map Value.string ++ T.map Value.string)) (hn : n = S.length + T.length) : OwnS B w v (S ++ T) := by
  subst hn; unfold OwnS; rw [List.length_append, List.map_append]; exact h
/-- A row of texts, at an address. -/
theorem OwnS.addr {B : Nat} {w : World} {v : Value} {S : List ByteArray} (h : OwnS B w v S) (hp : 0 < S.length) : ∃ g cap, v = .slice (some ⟨g, 0, none⟩) S.length cap ∧ Lt g w.heap.size ∧ ∀ j, j < S.length → w.cell? ⟨g, 0 + j, none⟩ = some (.string (S.getD j E0)) := by
  rcases h.2 with ⟨-, h0⟩ | ⟨g, cap, cur, rfl, hb, hg, hc, hm, hs, ht⟩
  · omega
  · refine ⟨g, cap, rfl, (Array.getElem?_eq_some_iff.1 hg).1, fun j hj => ?_⟩
    rw [Nat.zero_add, h.cellAt j (by omega)]
    simp [List.getD, hj]
/-- What the loop of CodeRows holds. -/
structure RwI (W0 wr : World) (R : List Rv) (ua ur : Value) (P : List Rv) : Prop where
  below : Below W0.heap.size W0 wr
  all : OwnS W0.heap.size wr ua (catS 2 1 (P.map Rv.pl))
  recs : OwnR W0.heap.size wr ur P
  mem : ∀ x ∈ P, x ∈ R
  ok : ∀ r ∈ P.map Rv.pl, rOk r.1 r.2 = true
theorem RwI.on {W0 wr wx : World} {R : List Rv} {ua ur : Value} {P : List Rv} (h : RwI W0 wr R ua ur P) (hb : Below wr.heap.size wr wx) : RwI W0 wx R ua ur P :=
  ⟨h.below.trans (hb.mono h.below.size), h.all.below hb, h.recs.below hb, h.mem, h.ok⟩
theorem RwI.rc {W0 wr : World} {R : List Rv} {ua ur : Value} {P : List Rv} (h : RwI W0 wr R ua ur P) (hR : ∀ x ∈ R, WsAt W0 x.v x.l) (hP : P.length ≤ 6) : RcAt wr ur P :=
  h.recs.at (by omega) (fun x hx => (hR x (h.mem x hx)).below h.below)
theorem RwI.len {W0 wr : World} {R : List Rv} {ua ur : Value} {P : List Rv} (h : RwI W0 wr R ua ur P) : P.length ≤ (catS 2 1 (P.map Rv.pl)).length ∧ (catS 2 1 (P.map Rv.pl)).length ≤ 116 * P.length := by
  have := catS_len 2 (P.map Rv.pl) 1 h.ok
  rw [List.length_map] at this
  exact this
set_option maxRecDepth 100000 in
set_option maxHeartbeats 32000000 in
theorem codeRows_any (w : World) (rv sv lv : Value) (np : Option Addr) (nn nc : Nat) (R : List Rv) (S : List ByteArray) (Q : List (Value × List ByteArray)) (hnn : nn ≤ 140737488355328) (hr : RcAt w rv R) (hs : SsAt w sv S) (hq : LsAt w lv Q) :
    Calls Try.prog 5 #[.agg #[rv, sv, .slice np nn nc, lv]] w fun e w' => e = .returned (.bool true) ∧ Below w.heap.size w w' := by
  have HH := Lib.hid (fun (w' : World) (hb : Below w.heap.size w w') => heavy_any w' rv sv lv np nn nc R S Q hnn (hr.below hb) (hs.below hb) (hq.below hb))
  obtain ⟨rp, rc, rfl, hrl, -⟩ := hr.at
  obtain ⟨sp, sc, rfl, -⟩ := hs.slice
  obtain ⟨lp, lc, rfl, -, -⟩ := hq.at
  have HRC := Lib.hid hr
  obtain ⟨i0, hi0, hz00, hz01, hz02⟩ := info_parts info_string
  have HI0 := Lib.hid hi0
  obtain ⟨j0, hj0, hy00, hy01, hy02⟩ := info_parts info_rec
  have HJ0 := Lib.hid hj0
  clear hr hs hq hi0 hj0
  go_enter Try.func5, Try.ntmps5
  go_wp2_with fail
  obtain ⟨W0, hW0⟩ : ∃ W0, W0 = w.alloc (Obj.cells #[.slice rp R.length rc, .slice sp S.length sc, .slice np nn nc, .slice lp Q.length lc] 27) := ⟨_, rfl⟩
  rw [← hW0]
  have hbw : Below w.heap.size w W0 := by subst hW0; (repeat (first | exact Below.refl _ _ | assumption | refine nw_more ?_ _ _ | refine nw_alloc ?_ _ | refine nw_drew ?_ | refine nw_drewN ?_ _ | refine nw_set ?_ (by first | (simp; done) | (simp; omega) | omega) _))
  have hbx : Blc W0 w.heap.size 27 #[.slice rp R.length rc, .slice sp S.length sc, .slice np nn nc, .slice lp Q.length lc] := by subst hW0; (repeat (first | exact Blc.newAt _ _ _ (by simp; done) | refine Blc.alloc ?_ _ | refine Blc.mre ?_ _ _))
  have hz0 : W0.heap.size = w.heap.size + 1 := by subst hW0; simp
  have HBW := Lib.hid hbw
  have HZ0 := Lib.hid hz0
  have HBX := Lib.hid hbx
  have HR0 := Lib.hid (HRC.out.below hbw)
  have hRW : ∀ x ∈ R, WsAt W0 x.v x.l := HR0.out.2.2
  have HRW := Lib.hid hRW
  refine (HH.out W0 hbw).mono ?_
  clear hW0 hbw hbx hRW HH HRC hz0
  rintro e w1 ⟨b0, rfl, -, hb⟩
  have HB1 := Lib.hid hb
  clear hb
  cases b0
  case true =>
    go_wp2
    go_ret
    exact ⟨rfl, HBW.out.trans (HB1.out.mono (by have := HZ0.out; omega))⟩
  case false =>
  have HX : Hid (∀ wx, Below W0.heap.size W0 wx → wx.cell? ⟨w.heap.size, 0, none⟩ = some (.slice rp R.length rc) ∧ Lt w.heap.size wx.heap.size) := Lib.hid (fun wx hb => by
    have h1 := HBX.out.below hb
    have h2 := h1.cell 0
    exact ⟨by simpa using h2, h1.lt⟩)
  go_wp2_with fail
  go_loopg [3, 4, 5] 7 (fun g s3 s4 s5 wr => ∃ (i : Nat) (ua ur : Value) (P : List Rv), g + i = 7 ∧ i ≤ 6 ∧ P.length ≤ i ∧ s5 = .int .i64 i ∧ s3 = ua ∧ s4 = ur ∧ Hid (RwI W0 wr R ua ur P))
  case atStart => exact ⟨0, _, _, [], rfl, by omega, by simp, rfl, rfl, rfl, Lib.hid ⟨HB1.out, OwnS.nil _ _, OwnR.nil _ _, fun x hx => (by cases hx), fun r hr => (by cases hr)⟩⟩
  case round =>
    clear HB1
    obtain ⟨i, ua, ur, P, hg, hi6, hPi, rfl, rfl, rfl, HI⟩ := hrel
    obtain rfl : gk = 7 - i := by omega
    clear hg
    obtain ⟨x0, xlt⟩ := HX.out _ HI.out.below
    obtain ⟨qa, ca, ea⟩ := HI.out.all.form
    obtain ⟨qr, cr, er⟩ := HI.out.recs.slice
    by_cases hlt : i < R.length ∧ i < 6
    · obtain ⟨hi1, hi2⟩ := hlt
      have hi1i : (i : Int) < (R.length : Int) := by omega
      have hi2i : (i : Int) < 6 := by omega
      have hi2d : decide ((i : Int) < 6) = true := decide_eq_true hi2i
      obtain ⟨rp', rc', e9, -, hrat⟩ := (HR0.out.below HI.out.below).at
      simp only [Value.slice.injEq] at e9
      obtain ⟨rfl, -, rfl⟩ := e9
      obtain ⟨b, off, x, rfl, hb, c0, c1, hws, -, hxk⟩ := hrat i hi1
      have hxR : x ∈ R := List.mem_of_getElem? hxk
      obtain ⟨yc, yv, yl⟩ := x
      dsimp only at c0 c1 hws
      obtain ⟨yp, ycap, rfl, -⟩ := hws.slice
      have HWS := Lib.hid hws
      have HXR := Lib.hid hxR
      have HXK := Lib.hid hxk
      have HSEC : Hid (∀ X, WsAt X (.slice yp yl.length ycap) yl → Calls Try.prog 7 #[.agg #[.int .i64 yc, .slice yp yl.length ycap], .int .i64 2, .int .i64 (1 + (P.length : Int))] X fun e w' => ∃ u, e = .returned (.tuple #[u, .int .i64 (if rOk yc yl then 0 else 1)]) ∧ OwnS X.heap.size w' u (if rOk yc yl then secs (rBytes yc yl) 2 (1 + P.length) else []) ∧ Below X.heap.size X w') := Lib.hid (fun X h => by
        have h1 := sectors_any X yc _ yl 2 (1 + P.length) h (by omega) (by omega)
        have e1 : ((1 + P.length : Nat) : Int) = 1 + (P.length : Int) := by push_cast; rfl
        rw [e1] at h1
        exact h1)
      obtain ⟨ok, hok⟩ : ∃ ok, rOk yc yl = ok := ⟨_, rfl⟩
      rw [hok] at HSEC
      have HOK := Lib.hid hok
      clear hws hxk hrat hxR hok
      subst ea er
      cases ok
      case false =>
        go_wp2_with fail
        refine (HSEC.out _ HWS.out).mono ?_
        rintro e w2 ⟨u, rfl, -, hb2⟩
        have HI2 := Lib.hid (HI.out.on hb2)
        clear hb2 HI
        go_wp2_with (first | (go_at_call 8; refine (num17_any _ _).mono ?_; rintro e w' ⟨rfl, rfl⟩))
        go_roundg (7 - i - 1)
        case measure => omega
        case rel => exact ⟨i + 1, _, _, P, by omega, by omega, by omega, by go_num, rfl, rfl, HI2⟩
      case true =>
        simp only [if_true] at HSEC
        go_wp2_with fail
        refine (HSEC.out _ HWS.out).mono ?_
        rintro e w2 ⟨u, rfl, hou, hb2⟩
        obtain ⟨hnp1, hnp2⟩ := nParts_ok HOK.out
        obtain ⟨g, gc, rfl, hgl, hgc⟩ := hou.addr (by rw [secs_len]; exact hnp1)
        have HI2 := Lib.hid (HI.out.on hb2)
        have HW2 := Lib.hid (HWS.out.below hb2)
        have hz2 := HI2.out.below.size
        have hlen := HI2.out.len
        clear hou hb2 HI HWS HSEC c0 c1 hb x0 xlt
        rw [secs_len] at hgc
        rw [secs_len]
        go_wp2_with (first | (go_at_call 8; refine (num17_any _ _).mono ?_; rintro e w' ⟨rfl, rfl⟩) | (at_builtin; refine wpList_append_own _ rfl _ _ 23 rfl W0.heap.size 9 i0 (.string { data := #[] }) 1 16 Try.underlying23 HI0.out hz00 hz01 hz02 rfl (by decide) _ (catS 2 1 (P.map Rv.pl)).length ((catS 2 1 (P.map Rv.pl)).map Value.string) rfl HI2.out.all ⟨g, 0, none⟩ (nParts (rBytes yc yl)) gc ((secs (rBytes yc yl) 2 (1 + P.length)).map Value.string) rfl ?c0 ?c1 ?c2 ?c3 ?c4 ?c5 ?_))
        case c0 => simp [secs_len]
        case c1 => exact newsS (fun j hj => hgc j (by rw [secs_len] at hj; exact hj))
        case c2 => exact newsS_one _
        case c3 => unfold maxLen; omega
        case c4 => omega
        case c5 => exact hz2
        intro V w3 hown hgrow hnil
        clear hnil
        obtain ⟨P2, hP2⟩ : ∃ P2 : List Rv, P2 = P ++ [⟨yc, .slice yp yl.length ycap, yl⟩] := ⟨_, rfl⟩
        have HP2 := Lib.hid hP2
        have hall : OwnS W0.heap.size w3 V (catS 2 1 (P2.map Rv.pl)) := by
          rw [hP2]
          have h1 := OwnS.app hown (by rw [secs_len])
          have h2 := catS_snoc 2 (P.map Rv.pl) 1 (yc, yl)
          rw [List.length_map] at h2
          rw [List.map_append]
          show OwnS W0.heap.size w3 V (catS 2 1 (P.map Rv.pl ++ [(yc, yl)]))
          rw [h2]
          exact h1
        have hrec : OwnR W0.heap.size w3 (.slice qr P.length cr) P := World.ownsRow.kept HI2.out.recs hgrow (own_apart HI2.out.recs HI2.out.all (by decide))
        have hb3 : Below W0.heap.size W0 w3 := below_append HI2.out.below HI2.out.all hgrow
        obtain ⟨x0, xlt⟩ := HX.out _ hb3
        obtain ⟨rp', rc', e9, -, hrat⟩ := (HR0.out.below hb3).at
        simp only [Value.slice.injEq] at e9
        obtain ⟨rfl, -, rfl⟩ := e9
        obtain ⟨b', off', x, e10, hb, c0, c1, hws, -, hxk2⟩ := hrat i hi1
        simp only [Option.some.injEq, Addr.mk.injEq, and_true] at e10
        obtain ⟨rfl, rfl⟩ := e10
        rw [HXK.out] at hxk2
        obtain rfl := Option.some.inj hxk2
        dsimp only at c0 c1 hws
        obtain ⟨q3, c3, e3⟩ := hall.form
        have HALL := Lib.hid hall
        have HREC := Lib.hid hrec
        have HB3 := Lib.hid hb3
        have HMEM := Lib.hid HI2.out.mem
        have HOKS := Lib.hid HI2.out.ok
        have hz3 := hb3.size
        clear hP2 hall hrec hb3 hown hgrow hrat hws hgc HI2 HW2 hxk2
        subst e3
        go_wp2_with (at_builtin; refine wpList_append_own _ rfl _ _ 22 rfl W0.heap.size 34 j0 (.agg #[.int .i64 0, .slice none 0 0]) 2 32 Try.underlying22 HJ0.out hy00 hy01 hy02 rfl (by decide) _ P.length (rvCells P) rfl (own_below HREC.out (by (repeat (first | exact Below.refl _ _ | assumption | refine nw_more ?_ _ _ | refine nw_alloc ?_ _ | refine nw_drew ?_ | refine nw_drewN ?_ _ | refine nw_set ?_ (by first | (simp; done) | (simp; omega) | omega) _)))) ⟨_, 0, none⟩ 1 1 [.int .i64 yc, .slice yp yl.length ycap] rfl rfl ?c1 ?c2 ?c3 ?c4 ?c5 ?_)
        case c1 => exact news2 (by simp [go_sem]) (by simp [go_sem])
        case c2 => exact news2_one rfl rfl
        case c3 => unfold maxLen; omega
        case c4 => omega
        case c5 => simp; omega
        intro V4 w4 hown hgrow hnil
        clear hnil
        have hX : Below w3.heap.size w3 (w3.alloc (Obj.cells #[.int .i64 yc, .slice yp yl.length ycap] 34)) := by (repeat (first | exact Below.refl _ _ | assumption | refine nw_more ?_ _ _ | refine nw_alloc ?_ _ | refine nw_drew ?_ | refine nw_drewN ?_ _ | refine nw_set ?_ (by first | (simp; done) | (simp; omega) | omega) _))
        have hro := HREC.out.below hX
        have hao := HALL.out.below hX
        have hI4 : RwI W0 w4 R (.slice q3 (catS 2 1 (P2.map Rv.pl)).length c3) V4 P2 := by
          refine ⟨below_append (HB3.out.trans (hX.mono hz3)) hro hgrow, World.ownsRow.kept (e := 9) hao hgrow (own_apart (e := 9) (e' := 34) hao hro (by decide)), ?_, fun x hx => ?_, fun r hr => ?_⟩
          · unfold OwnR
            rw [HP2.out, rvCells_append, List.length_append]
            exact hown
          · rw [HP2.out] at hx
            rcases List.mem_append.1 hx with hx | hx
            · exact HMEM.out x hx
            · obtain rfl := List.mem_singleton.1 hx; exact HXR.out
          · rw [HP2.out, List.map_append] at hr
            rcases List.mem_append.1 hr with hr | hr
            · exact HOKS.out r hr
            · obtain rfl := List.mem_singleton.1 hr; exact HOK.out
        have HI4 := Lib.hid hI4
        have hpl4 : P2.length ≤ i + 1 := by rw [HP2.out, List.length_append]; show P.length + 1 ≤ i + 1; omega
        clear hX hro hao hown hgrow hI4 HALL HREC HB3
        go_wp2
        go_roundg (7 - i - 1)
        case measure => omega
        case rel => exact ⟨i + 1, _, _, _, by omega, by omega, hpl4, by go_num, rfl, rfl, HI4⟩
    · have hP6 : P.length ≤ 6 := by omega
      have hex : ¬ i < R.length ∨ (i < R.length ∧ ¬ i < 6) := by omega
      have hlen := HI.out.len
      have hrp : readP ((catS 2 1 (P.map Rv.pl)).length + 1) (catS 2 1 (P.map Rv.pl)) 2 1 = (P.map Rv.pl, (catS 2 1 (P.map Rv.pl)).length) := by
        have h1 := readP_cat 2 [] (P.map Rv.pl) 1 ((catS 2 1 (P.map Rv.pl)).length + 1) HI.out.ok (by rw [List.length_map]; omega) (by rw [List.length_map]; omega) (firstP_nil _ _)
        rw [List.append_nil] at h1
        exact h1
      have HRP := Lib.hid hrp
      have HSZ : Hid (∀ s ∈ catS 2 1 (P.map Rv.pl), s.size ≤ 140737488355328) := Lib.hid (fun s hs => by rw [catS_size _ _ _ s hs]; omega)
      clear hrp hlt
      subst ea er
      have HRCAT := Lib.hid (HI.out.rc HRW.out hP6)
      rcases hex with hx | ⟨hx, hx6⟩
      all_goals
        first
          | (have hi1i : ¬ (i : Int) < (R.length : Int) := by omega)
          | (have hi1i : (i : Int) < (R.length : Int) := by omega
             have hi2i : ¬ (i : Int) < 6 := by omega
             have hi2d : decide ((i : Int) < 6) = false := decide_eq_false hi2i)
        go_wp2_with fail
        refine (read_any _ _ (catS 2 1 (P.map Rv.pl)) 2 1 (HI.out.all.at (by omega) HSZ.out) (by omega) (by omega) (by omega)).mono ?_
        rw [HRP.out]
        rintro e w2 ⟨v2, P2, rfl, hp2, hrd, hb2⟩
        dsimp only at hp2
        have hp2l : P2.length = P.length := by have := congrArg List.length hp2; simpa using this
        have hsm : ∀ x ∈ P2, x.l.length ≤ 140737488355328 ∧ ∀ y ∈ x.l, y.k.size ≤ 140737488355328 ∧ y.s.size ≤ 140737488355328 := fun x hx => by
          have h1 : x.pl ∈ P.map Rv.pl := by rw [← hp2]; exact List.mem_map_of_mem hx
          obtain ⟨-, -, h2, h3⟩ := rOk_parts (HI.out.ok _ h1)
          exact ⟨by show (x.pl).2.length ≤ _; omega, fun y hy => wOk_small (List.all_eq_true.1 h3 y hy)⟩
        obtain ⟨v2p, v2c, hv2⟩ := hrd.row.slice
        rw [hp2l] at hv2
        subst hv2
        have HRC2 : Hid (RcAt w2 (.slice v2p P.length v2c) P2) := Lib.hid (hrd.row.at (by omega) (fun x hx => (hrd.each x hx).at (hsm x hx).1 (hsm x hx).2))
        have HP2 := Lib.hid hp2
        have HI2 := Lib.hid (HI.out.on hb2)
        have HRCAT2 := Lib.hid (HRCAT.out.below hb2)
        clear hp2 hrd hb2 hsm HI HRCAT hp2l
        clear HRP hx x0 xlt
        by_cases hp0 : 0 < P.length
        case neg =>
          have hp0i : ¬ (0 : Int) < (P.length : Int) := by omega
          go_wp2_with (first | (go_at_call 8; refine (num17_any _ _).mono ?_; rintro e w' ⟨rfl, rfl⟩) | (go_at_call 15; refine (eqRecords_same _ _ _ P2 P (HRC2.out.below (by (repeat (first | exact Below.refl _ _ | assumption | refine nw_more ?_ _ _ | refine nw_alloc ?_ _ | refine nw_drew ?_ | refine nw_drewN ?_ _ | refine nw_set ?_ (by first | (simp; done) | (simp; omega) | omega) _)))) (HRCAT2.out.below (by (repeat (first | exact Below.refl _ _ | assumption | refine nw_more ?_ _ _ | refine nw_alloc ?_ _ | refine nw_drew ?_ | refine nw_drewN ?_ _ | refine nw_set ?_ (by first | (simp; done) | (simp; omega) | omega) _)))) HP2.out).mono ?_; (rintro e w' ⟨rfl, hb⟩; obtain ⟨n, es, rfl⟩ := below_more hb; clear hb)) | (go_at_call 12; refine (wakes17_any _).mono ?_; (rintro e w' ⟨rfl, hb⟩; obtain ⟨n, es, rfl⟩ := below_more hb; clear hb)))
          go_ret
          refine ⟨rfl, ?_⟩
          have hb1 : Below w.heap.size w w2 := HBW.out.trans (HI2.out.below.mono (by have := HZ0.out; omega))
          (repeat (first | exact Below.refl _ _ | assumption | refine nw_more ?_ _ _ | refine nw_alloc ?_ _ | refine nw_drew ?_ | refine nw_drewN ?_ _ | refine nw_set ?_ (by first | (simp; done) | (simp; omega) | omega) _))
        case pos =>
          have hp0i : (0 : Int) < (P.length : Int) := by omega
          obtain ⟨rp', rc', e9, -, hrat⟩ := HRCAT2.out.at
          simp only [Value.slice.injEq] at e9
          obtain ⟨rfl, -, rfl⟩ := e9
          obtain ⟨b, off, x, rfl, hb, c0, c1, hws, -, hxk⟩ := hrat 0 hp0
          rw [Nat.zero_mul, Nat.add_zero] at c0 c1
          have hxm : x ∈ P := List.mem_of_getElem? hxk
          obtain ⟨yc, yv, yl⟩ := x
          dsimp only at c0 c1 hws
          obtain ⟨yp, ycap, rfl, -⟩ := hws.slice
          have hok : rOk yc yl = true := HI2.out.ok (yc, yl) (List.mem_map_of_mem (f := Rv.pl) hxm)
          have HWS := Lib.hid hws
          have HOK := Lib.hid hok
          have HSEC : Hid (∀ X, WsAt X (.slice yp yl.length ycap) yl → Calls Try.prog 7 #[.agg #[.int .i64 yc, .slice yp yl.length ycap], .int .i64 2, .int .i64 ((P.length : Int) + 2)] X fun e w' => ∃ u, e = .returned (.tuple #[u, .int .i64 0]) ∧ OwnS X.heap.size w' u (secs (rBytes yc yl) 2 (P.length + 2)) ∧ Below X.heap.size X w') := Lib.hid (fun X h => by
            have h1 := sectors_any X yc _ yl 2 (P.length + 2) h (by omega) (by omega)
            have e1 : ((P.length + 2 : Nat) : Int) = (P.length : Int) + 2 := by push_cast; rfl
            rw [e1, HOK.out] at h1
            exact h1)
          clear hws hok hrat hxk hxm
          go_wp2_with (first | (go_at_call 8; refine (num17_any _ _).mono ?_; rintro e w' ⟨rfl, rfl⟩) | (go_at_call 15; refine (eqRecords_same _ _ _ P2 P (HRC2.out.below (by (repeat (first | exact Below.refl _ _ | assumption | refine nw_more ?_ _ _ | refine nw_alloc ?_ _ | refine nw_drew ?_ | refine nw_drewN ?_ _ | refine nw_set ?_ (by first | (simp; done) | (simp; omega) | omega) _)))) (HRCAT2.out.below (by (repeat (first | exact Below.refl _ _ | assumption | refine nw_more ?_ _ _ | refine nw_alloc ?_ _ | refine nw_drew ?_ | refine nw_drewN ?_ _ | refine nw_set ?_ (by first | (simp; done) | (simp; omega) | omega) _)))) HP2.out).mono ?_; (rintro e w' ⟨rfl, hb⟩; obtain ⟨n, es, rfl⟩ := below_more hb; clear hb)))
          refine (HSEC.out _ (HWS.out.below (by (repeat (first | exact Below.refl _ _ | assumption | refine nw_more ?_ _ _ | refine nw_alloc ?_ _ | refine nw_drew ?_ | refine nw_drewN ?_ _ | refine nw_set ?_ (by first | (simp; done) | (simp; omega) | omega) _))))).mono ?_
          rintro e w3 ⟨u, rfl, hou, hb3⟩
          obtain ⟨hnp1, hnp2⟩ := nParts_ok HOK.out
          have hgn : Below w2.heap.size w2 w3 := nw_trans (by (repeat (first | exact Below.refl _ _ | assumption | refine nw_more ?_ _ _ | refine nw_alloc ?_ _ | refine nw_drew ?_ | refine nw_drewN ?_ _ | refine nw_set ?_ (by first | (simp; done) | (simp; omega) | omega) _))) hb3
          have HI3 := Lib.hid (HI2.out.on hgn)
          have HU := Lib.hid hou
          obtain ⟨uq, uc, rfl⟩ := hou.form
          have HRC3 := Lib.hid (HRC2.out.below hgn)
          have HRCAT3 := Lib.hid (HRCAT2.out.below hgn)
          clear hou hb3 hgn HI2 HRC2 HRCAT2 HSEC HWS c0 c1 hb
          go_wp2_with fail
          refine (copyStrings_any _ _ (catS 2 1 (P.map Rv.pl)) (HI3.out.all.at (by omega) HSZ.out) (by omega)).mono ?_
          rintro e w4 ⟨u4, rfl, ho4, hb4⟩
          have hu4 := HU.out.below hb4
          obtain ⟨g, gc, eg, hgl, hgc⟩ := hu4.addr (by rw [secs_len]; exact hnp1)
          obtain ⟨q4, c4, rfl⟩ := ho4.form
          have HO4 := Lib.hid ho4
          have HB4 := Lib.hid hb4
          have hz34 := hb4.size
          rw [secs_len] at eg hgc
          simp only [Value.slice.injEq] at eg
          obtain ⟨rfl, -, rfl⟩ := eg
          have HGC := Lib.hid hgc
          clear ho4 hb4 hu4 HU hgc
          rw [secs_len]
          have hrp2 : readP ((catS 2 1 (P.map Rv.pl) ++ secs (rBytes yc yl) 2 (P.length + 2)).length + 1) (catS 2 1 (P.map Rv.pl) ++ secs (rBytes yc yl) 2 (P.length + 2)) 2 1 = (P.map Rv.pl, (catS 2 1 (P.map Rv.pl)).length) :=
            readP_cat 2 _ (P.map Rv.pl) 1 _ HI3.out.ok (by rw [List.length_map, List.length_append]; omega) (by rw [List.length_map]; omega) (firstP_other HOK.out (by omega) (by omega) (by omega) (by rw [List.length_map]; omega) (by rw [List.length_map]; omega))
          have HRP2 := Lib.hid hrp2
          have hal : (catS 2 1 (P.map Rv.pl) ++ secs (rBytes yc yl) 2 (P.length + 2)).length ≤ 1000000 := by rw [List.length_append, secs_len]; omega
          have HSZ2 : Hid (∀ s ∈ catS 2 1 (P.map Rv.pl) ++ secs (rBytes yc yl) 2 (P.length + 2), s.size ≤ 140737488355328) := Lib.hid (fun s hs => by
            rcases List.mem_append.1 hs with hs | hs
            · exact HSZ.out s hs
            · rw [secs_size hs]; omega)
          clear hrp2
          go_wp2_with (at_builtin; refine wpList_append_own _ rfl _ _ 23 rfl w3.heap.size 9 i0 (.string { data := #[] }) 1 16 Try.underlying23 HI0.out hz00 hz01 hz02 rfl (by decide) _ (catS 2 1 (P.map Rv.pl)).length ((catS 2 1 (P.map Rv.pl)).map Value.string) rfl HO4.out ⟨g, 0, none⟩ (nParts (rBytes yc yl)) uc ((secs (rBytes yc yl) 2 (P.length + 2)).map Value.string) rfl ?c0 ?c1 ?c2 ?c3 ?c4 ?c5 ?_)
          case c0 => simp [secs_len]
          case c1 => exact newsS (fun j hj => HGC.out j (by rw [secs_len] at hj; exact hj))
          case c2 => exact newsS_one _
          case c3 => unfold maxLen; omega
          case c4 => omega
          case c5 => exact hz34
          intro V w5 hown hgrow hnil
          clear hnil
          have hb35 : Below w3.heap.size w3 w5 := below_append HB4.out HO4.out hgrow
          have hall : OwnS w3.heap.size w5 V (catS 2 1 (P.map Rv.pl) ++ secs (rBytes yc yl) 2 (P.length + 2)) := OwnS.app hown (by rw [secs_len])
          have HI5 := Lib.hid (HI3.out.on hb35)
          have HRCAT5 := Lib.hid (HRCAT3.out.below hb35)
          have HALL := Lib.hid (hall.at (by omega) HSZ2.out)
          clear hb35 hall hown hgrow HI3 HRCAT3 HRC3 HO4 HB4 HGC hgl
          go_wp2_with fail
          refine (read_any _ _ (catS 2 1 (P.map Rv.pl) ++ secs (rBytes yc yl) 2 (P.length + 2)) 2 1 HALL.out hal (by omega) (by omega)).mono ?_
          rw [HRP2.out]
          rintro e w6 ⟨v6, P6, rfl, hp6, hrd, hb6⟩
          dsimp only at hp6
          have hp6l : P6.length = P.length := by have := congrArg List.length hp6; simpa using this
          have hsm : ∀ x ∈ P6, x.l.length ≤ 140737488355328 ∧ ∀ y ∈ x.l, y.k.size ≤ 140737488355328 ∧ y.s.size ≤ 140737488355328 := fun x hx => by
            have h1 : x.pl ∈ P.map Rv.pl := by rw [← hp6]; exact List.mem_map_of_mem hx
            obtain ⟨-, -, h2, h3⟩ := rOk_parts (HI5.out.ok _ h1)
            exact ⟨by show (x.pl).2.length ≤ _; omega, fun y hy => wOk_small (List.all_eq_true.1 h3 y hy)⟩
          obtain ⟨v6p, v6c, hv6⟩ := hrd.row.slice
          rw [hp6l] at hv6
          subst hv6
          have HRC6 : Hid (RcAt w6 (.slice v6p P.length v6c) P6) := Lib.hid (hrd.row.at (by omega) (fun x hx => (hrd.each x hx).at (hsm x hx).1 (hsm x hx).2))
          have HP6 := Lib.hid hp6
          have HI6 := Lib.hid (HI5.out.on hb6)
          have HRCAT6 := Lib.hid (HRCAT5.out.below hb6)
          clear hp6 hrd hb6 hsm HI5 HRCAT5 hp6l HALL HRP2
          go_wp2_with (first | (go_at_call 8; refine (num17_any _ _).mono ?_; rintro e w' ⟨rfl, rfl⟩) | (go_at_call 15; refine (eqRecords_same _ _ _ P6 P (HRC6.out.below (by (repeat (first | exact Below.refl _ _ | assumption | refine nw_more ?_ _ _ | refine nw_alloc ?_ _ | refine nw_drew ?_ | refine nw_drewN ?_ _ | refine nw_set ?_ (by first | (simp; done) | (simp; omega) | omega) _)))) (HRCAT6.out.below (by (repeat (first | exact Below.refl _ _ | assumption | refine nw_more ?_ _ _ | refine nw_alloc ?_ _ | refine nw_drew ?_ | refine nw_drewN ?_ _ | refine nw_set ?_ (by first | (simp; done) | (simp; omega) | omega) _)))) HP6.out).mono ?_; (rintro e w' ⟨rfl, hb⟩; obtain ⟨n, es, rfl⟩ := below_more hb; clear hb)) | (go_at_call 12; refine (wakes17_any _).mono ?_; (rintro e w' ⟨rfl, hb⟩; obtain ⟨n, es, rfl⟩ := below_more hb; clear hb)))
          go_ret
          refine ⟨rfl, ?_⟩
          have hb1 : Below w.heap.size w w6 := HBW.out.trans (HI6.out.below.mono (by have := HZ0.out; omega))
          (repeat (first | exact Below.refl _ _ | assumption | refine nw_more ?_ _ _ | refine nw_alloc ?_ _ | refine nw_drew ?_ | refine nw_drewN ?_ _ | refine nw_set ?_ (by first | (simp; done) | (simp; omega) | omega) _))
end Go.Proofs.Ytaelgappabecgaa
