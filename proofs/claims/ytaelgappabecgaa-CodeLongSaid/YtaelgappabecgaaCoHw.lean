/- Heavy: what it says of the texts' number; EqWrites, EqRecord, EqRecords of the same; CopyStrings; num. No condition. -/
import Derived.Test.YtaelgappabecgaaCoHv
import Derived.Test.YtaelgappabecgaaCoMem
namespace Go.Proofs.Ytaelgappabecgaa
open Go.RowKit

def HvOut (nn : Nat) (w : World) (e : Ending) (w' : World) : Prop := ∃ b : Bool, e = .returned (.bool b) ∧ (b = false → nn ≤ 6000) ∧ Below w.heap.size w w'
set_option maxHeartbeats 4000000 in
theorem heavy_any (w : World) (rv sv lv : Value) (np : Option Addr) (nn nc : Nat) (R : List Rv) (S : List ByteArray) (Q : List (Value × List ByteArray)) (hnn : nn ≤ 140737488355328) (hr : RcAt w rv R) (hs : SsAt w sv S) (hq : LsAt w lv Q) :
    Calls Try.prog 6 #[.agg #[rv, sv, .slice np nn nc, lv]] w fun e w' => HvOut S.length w e w' := by
  obtain ⟨rp, rc, rfl, hrl, -⟩ := hr.at
  obtain ⟨sp, sc, rfl, hscap⟩ := hs.slice
  obtain ⟨lp, lc, rfl, hll, hlt0⟩ := hq.at
  have HR := Lib.hid hr
  have HS := Lib.hid hs
  have HL := Lib.hid hlt0
  have hsl := hs.1
  have r1 : (R.length : Int) ≤ rwB R := rwGo_low R R.length
  have r2 : rwB R ≤ 281474976710656 := rwGo_high R R.length (fun x hx => wwB_high x.l (hr.2.2 x hx).1 (hr.2.2 x hx).2.1) (by omega)
  have s1 : (S.length : Int) ≤ txB S := txGo_low S S.length
  have s2 : txB S ≤ 281474976710656 := txGo_high S S.length hs.2.1 (by omega)
  have HRW := Lib.hid (fun X (h : RcAt X (.slice rp R.length rc) R) => recordsWeight_any X _ R h)
  have HTX := Lib.hid (fun X (h : SsAt X (.slice sp S.length sc) S) => texts_any X _ S h)
  clear hr hs hq hlt0
  generalize rwB R = A at *
  generalize txB S = T at *
  have w0 : IntKind.i64.wrap (A * 8) = A * 8 := IntWalk.i64_in _ (by omega)
  have w1 : IntKind.i64.wrap (A * 8 + T) = A * 8 + T := IntWalk.i64_in _ (by omega)
  have w2 : IntKind.i64.wrap (A * 8 + T + (nn : Int)) = A * 8 + T + (nn : Int) := IntWalk.i64_in _ (by omega)
  have w3 : IntKind.i64.wrap (A * 8 + T + (nn : Int) + (Q.length : Int)) = A * 8 + T + (nn : Int) + (Q.length : Int) := IntWalk.i64_in _ (by omega)
  go_enter Try.func6, Try.ntmps6
  go_wp2_with fail
  (refine wp_region_quiet_more (by kernel_rfl) (by kernel_rfl) ?_; (repeat (first | go_big_quiet_skip | quiet_step ((first | (go_at_call 16; exact Calls.more_of (HRW.out _ (HR.out.below (by (repeat (first | exact Below.refl _ _ | assumption | refine nw_more ?_ _ _ | refine nw_alloc ?_ _ | refine nw_drew ?_ | refine nw_drewN ?_ _ | refine nw_set ?_ (by first | (simp; done) | (simp; omega) | omega) _)))))) | (go_at_call 17; exact Calls.more_of (HTX.out _ (HS.out.below (by (repeat (first | exact Below.refl _ _ | assumption | refine nw_more ?_ _ _ | refine nw_alloc ?_ _ | refine nw_drew ?_ | refine nw_drewN ?_ _ | refine nw_set ?_ (by first | (simp; done) | (simp; omega) | omega) _)))))))))); refine wpQuiet_nil ?_; intro _ hw'; obtain ⟨⟨nq, esq⟩, hw''⟩ := hw'; subst hw''; dsimp only)
  go_wp2_with fail
  have hst : (S.length : Int) ≤ A * 8 + T + (nn : Int) + (Q.length : Int) := by omega
  have hst0 : 0 ≤ A * 8 + T + (nn : Int) + (Q.length : Int) := by omega
  clear w0 w1 w2 w3
  generalize A * 8 + T + (nn : Int) + (Q.length : Int) = M1 at *
  go_loopg [3, 4] (Q.length + 1) (fun g s3 s4 wr => (∃ n es, wr = more (w.alloc (Obj.cells #[.slice rp R.length rc, .slice sp S.length sc, .slice np nn nc, .slice lp Q.length lc] 27)) n es) ∧ ∃ (m : Int) (k : Nat), k ≤ Q.length ∧ g + k = Q.length + 1 ∧ 0 ≤ m ∧ (S.length : Int) ≤ m ∧ s3 = .int .i64 m ∧ s4 = .int .i64 k)
  case atStart => exact ⟨below_more (by (repeat (first | exact Below.refl _ _ | assumption | refine nw_more ?_ _ _ | refine nw_alloc ?_ _ | refine nw_drew ?_ | refine nw_drewN ?_ _ | refine nw_set ?_ (by first | (simp; done) | (simp; omega) | omega) _))), M1, 0, Nat.zero_le _, rfl, hst0, hst, rfl, rfl⟩
  case round =>
    clear hst hst0 HRW HTX
    obtain ⟨⟨n, es, rfl⟩, m, k, hk, hg, hm0, hmn, rfl, rfl⟩ := hrel
    obtain rfl : gk = Q.length + 1 - k := by omega
    clear hg
    by_cases hlt : k < Q.length
    · have hkl : (k : Int) < (Q.length : Int) := by omega
      obtain ⟨b, off, x, rfl, hb, hc1, hss, -⟩ := HL.out k hlt
      obtain ⟨xv, xs⟩ := x
      dsimp only at hc1 hss
      obtain ⟨xp, xc, rfl, -⟩ := hss.slice
      by_cases hm : m < 1048576
      · have hdm : decide (m < 1048576) = true := decide_eq_true hm
        have t1 : (xs.length : Int) ≤ txB xs := txGo_low xs xs.length
        have t2 : txB xs ≤ 281474976710656 := txGo_high xs xs.length hss.2.1 (by have := hss.1; omega)
        have HX := Lib.hid hss
        have HC := Lib.hid (fun X (h : SsAt X (.slice xp xs.length xc) xs) => texts_any X _ xs h)
        generalize txB xs = y at *
        have w3 : IntKind.i64.wrap (m + y) = m + y := IntWalk.i64_in _ (by omega)
        clear HL hss
        go_wp2_with (first | (go_at_call 17; refine (HC.out _ (HX.out.below (by (repeat (first | exact Below.refl _ _ | assumption | refine nw_more ?_ _ _ | refine nw_alloc ?_ _ | refine nw_drew ?_ | refine nw_drewN ?_ _ | refine nw_set ?_ (by first | (simp; done) | (simp; omega) | omega) _))))).mono ?_; (rintro e w' ⟨rfl, hb⟩; obtain ⟨n, es, rfl⟩ := below_more hb; clear hb)))
        go_roundg (Q.length + 1 - k - 1)
        case measure => omega
        case rel => exact ⟨below_more (by (repeat (first | exact Below.refl _ _ | assumption | refine nw_more ?_ _ _ | refine nw_alloc ?_ _ | refine nw_drew ?_ | refine nw_drewN ?_ _ | refine nw_set ?_ (by first | (simp; done) | (simp; omega) | omega) _))), m + y, k + 1, by omega, by omega, by omega, by omega, rfl, by go_num⟩
      · clear HL hss
        go_wp2
        go_ret
        exact ⟨_, rfl, fun h => by have := of_decide_eq_false h; omega, by (repeat (first | exact Below.refl _ _ | assumption | refine nw_more ?_ _ _ | refine nw_alloc ?_ _ | refine nw_drew ?_ | refine nw_drewN ?_ _ | refine nw_set ?_ (by first | (simp; done) | (simp; omega) | omega) _))⟩
    · have hkl : ¬ (k : Int) < (Q.length : Int) := by omega
      clear HL
      go_wp2
      go_ret
      exact ⟨_, rfl, fun h => by have := of_decide_eq_false h; omega, by (repeat (first | exact Below.refl _ _ | assumption | refine nw_more ?_ _ _ | refine nw_alloc ?_ _ | refine nw_drew ?_ | refine nw_drewN ?_ _ | refine nw_set ?_ (by first | (simp; done) | (simp; omega) | omega) _))⟩

theorem num17_any (n : Int) (w : World) :
    Calls Try.prog 8 #[.int .i64 n] w fun e w' => e = .returned (.int .i64 n) ∧ w = w' := by
  go_enter Try.func8, Try.ntmps8
  go_wp2
  go_ret
  exact ⟨rfl, rfl⟩
theorem w_neq_self (t : Int) (k s : ByteArray) (g : Bool) (w : World) : (binOp .neq 43 (.agg #[.int .i64 t, .string k, .string s, .bool g]) (.agg #[.int .i64 t, .string k, .string s, .bool g])).run Try.prog w = .ok (.bool false) w := by
  simp [go_sem]
attribute [go_sem] w_neq_self
set_option maxHeartbeats 1000000 in
theorem eqWrites_same (w : World) (v1 v2 : Value) (l : List Wr) (h1 : WsAt w v1 l) (h2 : WsAt w v2 l) :
    Calls Try.prog 22 #[v1, v2] w fun e w' => e = .returned (.bool true) ∧ Below w.heap.size w w' := by
  obtain ⟨p1, c1, rfl, hl, hc1, ht1⟩ := h1.at
  obtain ⟨p2, c2, rfl, -, hc2, ht2⟩ := h2.at
  have H1 := Lib.hid ht1
  have H2 := Lib.hid ht2
  clear h1 h2 ht1 ht2
  go_enter Try.func22, Try.ntmps22
  go_wp2
  go_loopg [5] (l.length + 1) (fun g s5 wr => (∃ n es, wr = more w n es) ∧ ∃ k : Nat, k ≤ l.length ∧ g + k = l.length + 1 ∧ s5 = .int .i64 k)
  case atStart => exact ⟨below_more (Below.refl _ _), 0, Nat.zero_le _, rfl, rfl⟩
  case round =>
    obtain ⟨⟨n, es, rfl⟩, k, hk, hg, rfl⟩ := hrel
    obtain rfl : gk = l.length + 1 - k := by omega
    clear hg
    by_cases hlt : k < l.length
    · obtain ⟨b, off, x, rfl, hb, a0, a1, a2, a3, -, hx, -⟩ := H1.out k hlt
      obtain ⟨b', off', x', rfl, hb', d0, d1, d2, d3, -, hx', -⟩ := H2.out k hlt
      obtain rfl : x' = x := by rw [hx] at hx'; exact (Option.some.inj hx').symm
      obtain ⟨t, kk, s, g⟩ := x'
      dsimp only at a0 a1 a2 a3 d0 d1 d2 d3
      have hlt2 : (k : Int) < (l.length : Int) := by omega
      clear H1 H2 hx hx'
      go_wp2_with fail
      (refine wp_region_quiet_more (by kernel_rfl) (by kernel_rfl) ?_; (repeat (first | go_big_quiet_skip | quiet_step ((first | fail)))); refine wpQuiet_nil ?_; intro _ hw'; obtain ⟨⟨nq, esq⟩, hw''⟩ := hw'; subst hw''; dsimp only)
      go_wp2
      go_roundg (l.length + 1 - k - 1)
      case measure => omega
      case rel => exact ⟨below_more (by (repeat (first | exact Below.refl _ _ | assumption | refine nw_more ?_ _ _ | refine nw_alloc ?_ _ | refine nw_drew ?_ | refine nw_drewN ?_ _ | refine nw_set ?_ (by first | (simp; done) | (simp; omega) | omega) _))), k + 1, by omega, by omega, by go_num⟩
    · clear H1 H2
      go_wp2
      go_ret
      exact ⟨rfl, by (repeat (first | exact Below.refl _ _ | assumption | refine nw_more ?_ _ _ | refine nw_alloc ?_ _ | refine nw_drew ?_ | refine nw_drewN ?_ _ | refine nw_set ?_ (by first | (simp; done) | (simp; omega) | omega) _))⟩
set_option maxHeartbeats 1000000 in
theorem eqRecord_same (w : World) (c : Int) (v1 v2 : Value) (l : List Wr) (h1 : WsAt w v1 l) (h2 : WsAt w v2 l) :
    Calls Try.prog 11 #[.agg #[.int .i64 c, v1], .agg #[.int .i64 c, v2]] w fun e w' => e = .returned (.bool true) ∧ Below w.heap.size w w' := by
  obtain ⟨p1, c1, rfl, -⟩ := h1.slice
  obtain ⟨p2, c2, rfl, -⟩ := h2.slice
  have H1 := Lib.hid h1
  have H2 := Lib.hid h2
  clear h1 h2
  go_enter Try.func11, Try.ntmps11
  go_wp2_with (first | (go_at_call 22; refine (eqWrites_same _ _ _ l (H1.out.below (by (repeat (first | exact Below.refl _ _ | assumption | refine nw_more ?_ _ _ | refine nw_alloc ?_ _ | refine nw_drew ?_ | refine nw_drewN ?_ _ | refine nw_set ?_ (by first | (simp; done) | (simp; omega) | omega) _)))) (H2.out.below (by (repeat (first | exact Below.refl _ _ | assumption | refine nw_more ?_ _ _ | refine nw_alloc ?_ _ | refine nw_drew ?_ | refine nw_drewN ?_ _ | refine nw_set ?_ (by first | (simp; done) | (simp; omega) | omega) _))))).mono ?_; (rintro e w' ⟨rfl, hb⟩; obtain ⟨n, es, rfl⟩ := below_more hb; clear hb)))
  go_ret
  exact ⟨rfl, by (repeat (first | exact Below.refl _ _ | assumption | refine nw_more ?_ _ _ | refine nw_alloc ?_ _ | refine nw_drew ?_ | refine nw_drewN ?_ _ | refine nw_set ?_ (by first | (simp; done) | (simp; omega) | omega) _))⟩
set_option maxHeartbeats 2000000 in
theorem eqRecords_same (w : World) (v1 v2 : Value) (P1 P2 : List Rv) (h1 : RcAt w v1 P1) (h2 : RcAt w v2 P2) (he : P1.map Rv.pl = P2.map Rv.pl) :
    Calls Try.prog 15 #[v1, v2] w fun e w' => e = .returned (.bool true) ∧ Below w.heap.size w w' := by
  have hlen : P2.length = P1.length := by have := congrArg List.length he; simpa using this.symm
  obtain ⟨p1, c1, rfl, hl, ht1⟩ := h1.at
  obtain ⟨p2, c2, rfl, -, ht2⟩ := h2.at
  have H1 := Lib.hid ht1
  have H2 := Lib.hid ht2
  have HE := Lib.hid he
  rw [hlen]
  clear h1 h2 ht1 ht2 he
  go_enter Try.func15, Try.ntmps15
  go_wp2
  go_loopg [5] (P1.length + 1) (fun g s5 wr => (∃ n es, wr = more w n es) ∧ ∃ k : Nat, k ≤ P1.length ∧ g + k = P1.length + 1 ∧ s5 = .int .i64 k)
  case atStart => exact ⟨below_more (Below.refl _ _), 0, Nat.zero_le _, rfl, rfl⟩
  case round =>
    obtain ⟨⟨n, es, rfl⟩, k, hk, hg, rfl⟩ := hrel
    obtain rfl : gk = P1.length + 1 - k := by omega
    clear hg
    by_cases hlt : k < P1.length
    · obtain ⟨b, off, x, rfl, hb, a0, a1, hw1, -, hx⟩ := H1.out k hlt
      obtain ⟨b', off', x', rfl, hb', d0, d1, hw2, -, hx'⟩ := H2.out k (by omega)
      have hxe : x.pl = x'.pl := by
        have h1 : (P1.map Rv.pl)[k]? = some x.pl := by rw [List.getElem?_map, hx]; rfl
        have h2 : (P2.map Rv.pl)[k]? = some x'.pl := by rw [List.getElem?_map, hx']; rfl
        rw [HE.out, h2] at h1
        exact (Option.some.inj h1).symm
      obtain ⟨xc, xv, xl⟩ := x
      obtain ⟨xc', xv', xl'⟩ := x'
      simp only [Rv.pl, Prod.mk.injEq] at hxe
      obtain ⟨rfl, rfl⟩ := hxe
      dsimp only at a0 a1 d0 d1 hw1 hw2
      obtain ⟨q1, e1, rfl, -⟩ := hw1.slice
      obtain ⟨q2, e2, rfl, -⟩ := hw2.slice
      have hlt2 : (k : Int) < (P1.length : Int) := by omega
      have HW1 := Lib.hid hw1
      have HW2 := Lib.hid hw2
      clear H1 H2 hx hx' hw1 hw2
      go_wp2_with fail
      (refine wp_region_quiet_more (by kernel_rfl) (by kernel_rfl) ?_; (repeat (first | go_big_quiet_skip | quiet_step ((first | (go_at_call 11; exact Calls.more_of (eqRecord_same _ _ _ _ xl (HW1.out.below (by (repeat (first | exact Below.refl _ _ | assumption | refine nw_more ?_ _ _ | refine nw_alloc ?_ _ | refine nw_drew ?_ | refine nw_drewN ?_ _ | refine nw_set ?_ (by first | (simp; done) | (simp; omega) | omega) _)))) (HW2.out.below (by (repeat (first | exact Below.refl _ _ | assumption | refine nw_more ?_ _ _ | refine nw_alloc ?_ _ | refine nw_drew ?_ | refine nw_drewN ?_ _ | refine nw_set ?_ (by first | (simp; done) | (simp; omega) | omega) _)))))))))); refine wpQuiet_nil ?_; intro _ hw'; obtain ⟨⟨nq, esq⟩, hw''⟩ := hw'; subst hw''; dsimp only)
      go_wp2
      go_roundg (P1.length + 1 - k - 1)
      case measure => omega
      case rel => exact ⟨below_more (by (repeat (first | exact Below.refl _ _ | assumption | refine nw_more ?_ _ _ | refine nw_alloc ?_ _ | refine nw_drew ?_ | refine nw_drewN ?_ _ | refine nw_set ?_ (by first | (simp; done) | (simp; omega) | omega) _))), k + 1, by omega, by omega, by go_num⟩
    · clear H1 H2
      go_wp2
      go_ret
      exact ⟨rfl, by (repeat (first | exact Below.refl _ _ | assumption | refine nw_more ?_ _ _ | refine nw_alloc ?_ _ | refine nw_drew ?_ | refine nw_drewN ?_ _ | refine nw_set ?_ (by first | (simp; done) | (simp; omega) | omega) _))⟩
set_option maxHeartbeats 2000000 in
theorem copyStrings_any (w : World) (v : Value) (S : List ByteArray) (h : SsAt w v S) (hS : S.length ≤ 1000000) :
    Calls Try.prog 9 #[v] w fun e w' => ∃ u, e = .returned u ∧ OwnS w.heap.size w' u S ∧ Below w.heap.size w w' := by
  obtain ⟨i0, hi, hz0, hz1, hz2⟩ := info_parts info_string
  have HI := Lib.hid hi
  obtain ⟨p, cap, rfl, hl, hcap, ht⟩ := h.at
  have H := Lib.hid ht
  clear h ht hi
  go_enter Try.func9, Try.ntmps9
  go_wp2
  go_loopg [3, 4] (S.length + 1) (fun g s3 s4 wr => ∃ (k : Nat) (u : Value), k ≤ S.length ∧ g + k = S.length + 1 ∧ s4 = .int .i64 k ∧ s3 = u ∧ Hid (OwnS w.heap.size wr u (S.take k)) ∧ Hid (Below w.heap.size w wr))
  case atStart => exact ⟨0, _, Nat.zero_le _, rfl, rfl, rfl, Lib.hid (OwnS.nil _ _), Lib.hid (Below.refl _ _)⟩
  case round =>
    obtain ⟨k, u, hk, hg, rfl, rfl, HO, HB⟩ := hrel
    obtain rfl : gk = S.length + 1 - k := by omega
    clear hg
    obtain ⟨q0, qc0, e0⟩ := HO.out.form
    have hzr := HB.out.size
    by_cases hlt : k < S.length
    · have hstk : (S.take k).length = k := by rw [List.length_take]; omega
      rw [hstk] at e0
      subst e0
      obtain ⟨b, off, s, rfl, hb, hc0, hd, hxk, hsz⟩ := H.out k hlt
      have hc1 : wr.cell? ⟨b, off + k, none⟩ = some (.string s) := (HB.out.cell (p := ⟨b, off + k, none⟩) hb.out).trans hc0
      have hb1 : Lt b wr.heap.size := Nat.lt_of_lt_of_le hb.out hzr
      have hlt2 : (k : Int) < (S.length : Int) := by omega
      have htk : S.take (k + 1) = S.take k ++ [s] := by rw [List.take_add_one, hxk]; rfl
      have HTK := Lib.hid htk
      clear hc0 hb hd hxk htk
      go_wp2_with (at_builtin; refine wpList_append_own _ rfl _ _ 23 rfl w.heap.size 9 i0 (.string { data := #[] }) 1 16 Try.underlying23 HI.out hz0 hz1 hz2 rfl (by decide) _ (S.take k).length ((S.take k).map Value.string) rfl (own_below HO.out (by (repeat (first | exact Below.refl _ _ | assumption | refine nw_more ?_ _ _ | refine nw_alloc ?_ _ | refine nw_drew ?_ | refine nw_drewN ?_ _ | refine nw_set ?_ (by first | (simp; done) | (simp; omega) | omega) _)))) ⟨_, 0, none⟩ 1 1 [.string s] rfl rfl ?c1 ?c2 ?c3 ?c4 ?c5 ?_)
      case c1 => exact news1 (by simp [go_sem])
      case c2 => exact news1_one rfl
      case c3 => unfold maxLen; omega
      case c4 => omega
      case c5 => simp; omega
      intro V w3 hown' hgrow hnil
      clear hnil
      have hown2 : OwnS w.heap.size w3 V (S.take (k + 1)) := by
        unfold OwnS
        rw [HTK.out, List.length_append, hstk, List.map_append, List.map_take]
        exact hown'
      have hX : Below wr.heap.size wr (wr.alloc (Obj.cells #[.string s] 9)) := by (repeat (first | exact Below.refl _ _ | assumption | refine nw_more ?_ _ _ | refine nw_alloc ?_ _ | refine nw_drew ?_ | refine nw_drewN ?_ _ | refine nw_set ?_ (by first | (simp; done) | (simp; omega) | omega) _))
      have hbw : Below w.heap.size w w3 := below_append (w := w) (HB.out.trans (hX.mono hzr)) (own_below HO.out hX) hgrow
      have HO2 := Lib.hid hown2
      have HB2 := Lib.hid hbw
      clear hown' hgrow hX hown2 hbw HO HB hc1
      go_wp2
      go_roundg (S.length + 1 - k - 1)
      case measure => omega
      case rel => exact ⟨k + 1, V, by omega, by omega, by go_num, rfl, HO2, HB2⟩
    · have hkl : ¬ (k : Int) < (S.length : Int) := by omega
      have hfin := HO.out
      rw [List.take_of_length_le (by omega)] at hfin
      have HF := Lib.hid hfin
      clear HO hfin H e0
      go_wp2
      go_ret
      exact ⟨_, rfl, HF.out, HB.out⟩
end Go.Proofs.Ytaelgappabecgaa
