/- Contracts: a write put, a savepoint made. No condition. -/
import Derived.Test.YtaalfmpajfpliaaPdE
namespace Go.Proofs.Ytaalfmpajfpliaa
open Go.RowKit

theorem Blc.newAt (w : World) {b : Nat} (T : TypeId) (cs : Array Value) (h : w.heap.size = b) : Blc (w.alloc (.cells cs T)) b T cs := by subst h; exact Blc.new w T cs
/-- A row of another type lies in another block. -/
theorem not_own {w : World} {B : Nat} {e : TypeId} {s : Nat} {v : Value} {n : Nat} {xs : List Value} (h : w.ownsRow B e s v n xs) {b : Nat} {T : TypeId} {cs : Array Value} (hb : Blc w b T cs) (hne : e ≠ T) : v.ownBlock ≠ some b := by
  rcases h.2 with ⟨rfl, -⟩ | ⟨g, cap, cur, rfl, -, hg, -⟩
  · intro h; cases h
  · intro e1
    rw [ownBlock_mk] at e1
    obtain rfl := Option.some.inj e1
    unfold Blc at hb
    rw [hg] at hb
    simp at hb
    exact hne hb.2

set_option maxRecDepth 100000 in
set_option maxHeartbeats 4000000 in
theorem put_ok (w : World) (u v : Value) (l : List Wr) (ms : List Int) (t : Int) (k s : ByteArray) (g : Bool) (hks : k.size ≤ 140737488355328) (hs : s.size ≤ 140737488355328) (hx : wOk ⟨t, k, s, g⟩ = true) (hl : l.length < 12) (hok : pOk l ms = true) (hw : WsAt w u l) (hm : IntsAt w v ms) :
    Calls Try.prog 9 #[.agg #[u, v], .agg #[.int .i64 t, .string k, .string s, .bool g]] w fun e w' => ∃ u' v', e = .returned (pdTwo u' v' 0) ∧ OwnW w.heap.size w' u' (l ++ [⟨t, k, s, g⟩]) ∧ OwnN w.heap.size w' v' ms ∧ Below w.heap.size w w' := by
  obtain ⟨i0, hi, hz0, hz1, hz2⟩ := info_parts info_write
  have HI := Lib.hid hi
  have HW := Lib.hid hw
  have HM := Lib.hid hm
  have HOK := Lib.hid hok
  have HX := Lib.hid hx
  obtain ⟨p, cap, rfl, hcap⟩ := hw.slice
  obtain ⟨q, qc, rfl, hqc⟩ := hm.cap
  have k1 : (l.length : Int) < 12 := by omega
  have hml := hm.1
  clear hw hm hok hx hi
  go_enter Try.func9, Try.ntmps9
  go_wp2_with fail
  refine (mayBe_ok _ _ _ l ms (HW.out.below (by (repeat (first | exact Below.refl _ _ | assumption | refine nw_more ?_ _ _ | refine nw_alloc ?_ _ | refine nw_drew ?_ | refine nw_drewN ?_ _ | refine nw_set ?_ (by first | (simp; done) | (simp; omega) | omega) _)))) (HM.out.below (by (repeat (first | exact Below.refl _ _ | assumption | refine nw_more ?_ _ _ | refine nw_alloc ?_ _ | refine nw_drew ?_ | refine nw_drewN ?_ _ | refine nw_set ?_ (by first | (simp; done) | (simp; omega) | omega) _)))) HOK.out).mono ?_
  (rintro e w' ⟨rfl, hb⟩; obtain ⟨n, es, rfl⟩ := below_more hb; clear hb)
  go_wp2_with fail
  refine (writeMayBe_any _ _ _ _ _ hks hs).mono ?_
  rw [HX.out]
  (rintro e w' ⟨rfl, hb⟩; obtain ⟨n, es, rfl⟩ := below_more hb; clear hb)
  go_wp2_with fail
  (refine wp_region_quiet_more (by kernel_rfl) (by kernel_rfl) ?_; (repeat (first | go_big_quiet_skip | quiet_step ((first | (go_at_call 20; exact Calls.more_same (mostWrites_any _)))))); refine wpQuiet_nil ?_; intro _ hw'; obtain ⟨⟨nq, esq⟩, hw''⟩ := hw'; subst hw''; dsimp only)
  go_wp2_with fail
  refine (copied_any _ _ _ l ms (by omega) (HW.out.below (by (repeat (first | exact Below.refl _ _ | assumption | refine nw_more ?_ _ _ | refine nw_alloc ?_ _ | refine nw_drew ?_ | refine nw_drewN ?_ _ | refine nw_set ?_ (by first | (simp; done) | (simp; omega) | omega) _)))) (HM.out.below (by (repeat (first | exact Below.refl _ _ | assumption | refine nw_more ?_ _ _ | refine nw_alloc ?_ _ | refine nw_drew ?_ | refine nw_drewN ?_ _ | refine nw_set ?_ (by first | (simp; done) | (simp; omega) | omega) _))))).mono ?_
  rintro e w1 ⟨u1, v1, rfl, h1, h2, hb⟩
  have b2 : Blc w1 (w.heap.size + 1) 39 #[.int .i64 t, .string k, .string s, .bool g] := Blc.below (by (repeat (first | exact Blc.newAt _ _ _ (by simp; done) | refine Blc.alloc ?_ _ | refine Blc.mre ?_ _ _))) hb
  have b3 : Blc w1 (w.heap.size + 1 + 1) 25 #[.slice none 0 0, .slice none 0 0] := Blc.below (by (repeat (first | exact Blc.newAt _ _ _ (by simp; done) | refine Blc.alloc ?_ _ | refine Blc.mre ?_ _ _))) hb
  have hbe : Below w.heap.size w w1 := nw_trans (by (repeat (first | exact Below.refl _ _ | assumption | refine nw_more ?_ _ _ | refine nw_alloc ?_ _ | refine nw_drew ?_ | refine nw_drewN ?_ _ | refine nw_set ?_ (by first | (simp; done) | (simp; omega) | omega) _))) hb
  have h1' := World.ownsRow.mono (base' := w.heap.size + 1 + 1 + 1) h1 (by simp; omega)
  have h2' := World.ownsRow.mono (base' := w.heap.size + 1 + 1 + 1) h2 (by simp; omega)
  have hsz : w.heap.size + 1 + 1 + 1 ≤ w1.heap.size := by have := hb.size; simp at this; omega
  obtain ⟨p1, c1, rfl⟩ := OwnW.slice h1
  obtain ⟨p2, c2, rfl⟩ := OwnN.slice h2
  have HO1 := Lib.hid h1'
  have HO2 := Lib.hid h2'
  have HB2 := Lib.hid b2
  have HB3 := Lib.hid b3
  have HBE := Lib.hid hbe
  have y0 := b2.cell 0
  have y1 := b2.cell 1
  have y2 := b2.cell 2
  have y3 := b2.cell 3
  simp only [List.getElem?_toArray, List.getElem?_cons_succ, List.getElem?_cons_zero] at y0 y1 y2 y3
  have l2 : Lt (w.heap.size + 1) w1.heap.size := b2.lt
  clear b2 b3 hbe h1 h2 h1' h2' hb
  go_wp2_with (at_builtin; refine wpList_append_own _ rfl _ _ 22 rfl (w.heap.size + 1 + 1 + 1) 39 i0 (.agg #[.int .i64 0, .string { data := #[] }, .string { data := #[] }, .bool false]) 4 48 Try.underlying22 HI.out hz0 hz1 hz2 rfl (by decide) _ _ _ rfl (World.ownsRow.alloc (World.ownsRow.alloc HO1.out _) _) ⟨_, 0, none⟩ 1 1 [.int .i64 t, .string k, .string s, .bool g] rfl rfl ?c1 ?c2 ?c3 ?c4 ?c5 ?_)
  case c1 => exact news4 (by simp [go_sem]) (by simp [go_sem]) (by simp [go_sem]) (by simp [go_sem])
  case c2 => intro u hu; simp at hu; rcases hu with rfl | rfl | rfl | rfl <;> rfl
  case c3 => unfold maxLen; omega
  case c4 => omega
  case c5 => simp; omega
  intro V w2 hown' hgrow hnil
  have hown2 : OwnW (w.heap.size + 1 + 1 + 1) w2 V (l ++ [⟨t, k, s, g⟩]) := by
    unfold OwnW
    rw [wCells_append, List.length_append]
    exact hown'
  obtain ⟨p3, c3, e3⟩ := OwnW.slice hown2
  have bx : Blc w2 w1.heap.size 25 #[.slice p1 l.length c1, .slice p2 ms.length c2] := ((Blc.new w1 25 #[.slice p1 l.length c1, .slice p2 ms.length c2]).alloc _).grown hgrow (fun e => absurd (World.ownsRow.lt HO1.out _ e).2 (Nat.lt_irrefl _))
  have b3 : Blc w2 (w.heap.size + 1 + 1) 25 #[.slice none 0 0, .slice none 0 0] := ((HB3.out.alloc _).alloc _).grown hgrow (not_own HO1.out HB3.out (by decide))
  have hv2 := World.ownsRow.kept (World.ownsRow.alloc (World.ownsRow.alloc HO2.out _) _) hgrow (own_apart HO2.out HO1.out (by decide))
  have hbe2 : Below w.heap.size w w2 := below_append (w := w) (by have hbel := HBE.out; (repeat (first | exact Below.refl _ _ | assumption | refine nw_more ?_ _ _ | refine nw_alloc ?_ _ | refine nw_drew ?_ | refine nw_drewN ?_ _ | refine nw_set ?_ (by first | (simp; done) | (simp; omega) | omega) _))) (World.ownsRow.mono (World.ownsRow.alloc (World.ownsRow.alloc HO1.out _) _) (by omega)) hgrow
  have hlen : (l ++ [(⟨t, k, s, g⟩ : Wr)]).length = l.length + 1 := by simp
  rw [hlen] at e3
  subst e3
  have hne : w.heap.size + 1 + 1 ≠ w1.heap.size := by omega
  have r := b3.far (a := ⟨w1.heap.size, 0, none⟩) hne (.slice p3 (l.length + 1) c3)
  have hs1 := bx.set 0 (.slice p3 (l.length + 1) c3)
  have qq := (r.set 0 (.slice p3 (l.length + 1) c3)).set 1 (.slice p2 ms.length c2)
  have HO3 : Hid (OwnW w.heap.size (((w2.setCell ⟨w1.heap.size, 0, none⟩ (.slice p3 (l.length + 1) c3)).setCell ⟨w.heap.size + 1 + 1, 0, none⟩ (.slice p3 (l.length + 1) c3)).setCell ⟨w.heap.size + 1 + 1, 1, none⟩ (.slice p2 ms.length c2)) (.slice p3 (l.length + 1) c3) (l ++ [⟨t, k, s, g⟩])) := Lib.hid (by
    have hn1 := not_own hown2 bx (by decide)
    have hn2 := not_own hown2 b3 (by decide)
    exact World.ownsRow.mono (ownsRow_setCell_other (ownsRow_setCell_other (ownsRow_setCell_other hown2 hn1 _) hn2 _) hn2 _) (by omega))
  have HO4 : Hid (OwnN w.heap.size (((w2.setCell ⟨w1.heap.size, 0, none⟩ (.slice p3 (l.length + 1) c3)).setCell ⟨w.heap.size + 1 + 1, 0, none⟩ (.slice p3 (l.length + 1) c3)).setCell ⟨w.heap.size + 1 + 1, 1, none⟩ (.slice p2 ms.length c2)) (.slice p2 ms.length c2) ms) := Lib.hid (by
    have hn1 := not_own hv2 bx (by decide)
    have hn2 := not_own hv2 b3 (by decide)
    exact World.ownsRow.mono (ownsRow_setCell_other (ownsRow_setCell_other (ownsRow_setCell_other hv2 hn1 _) hn2 _) hn2 _) (by omega))
  have x0 := bx.cell 0
  have x1 := bx.cell 1
  have fx := bx.free 0
  have lx : Lt w1.heap.size w2.heap.size := bx.lt
  have s0 := hs1.cell 0
  have s1 := hs1.cell 1
  have r0 := r.cell 0
  have r1 := r.cell 1
  have rf0 := r.free 0
  have rf1 := r.free 1
  have lr : Lt (w.heap.size + 1 + 1) w2.heap.size := b3.lt
  have q0 := qq.cell 0
  have q1 := qq.cell 1
  simp at x0 x1 s0 s1 r0 r1 q0 q1
  clear hown' hown2 hgrow hnil bx b3 hv2 r hs1 qq HO1 HO2 y0 y1 y2 y3 l2
  go_wp2
  refine bodyPost_ret (v := pdTwo (.slice p3 (l.length + 1) c3) (.slice p2 ms.length c2) 0) (by simp [pdTwo, results, Try.results9, go_sem, q0, q1]) rfl ⟨_, _, rfl, HO3.out, HO4.out, ?_⟩
  exact nw_set (nw_set (nw_set hbe2 (by simp; omega) _) (by simp; omega) _) (by simp; omega) _

set_option maxRecDepth 100000 in
set_option maxHeartbeats 4000000 in
theorem save_ok (w : World) (u v : Value) (l : List Wr) (ms : List Int) (hl : ms.length < 6) (hok : pOk l ms = true) (hw : WsAt w u l) (hm : IntsAt w v ms) :
    Calls Try.prog 6 #[.agg #[u, v]] w fun e w' => ∃ u' v', e = .returned (pdThree u' v' ms.length 0) ∧ OwnW w.heap.size w' u' l ∧ OwnN w.heap.size w' v' (ms ++ [(l.length : Int)]) ∧ Below w.heap.size w w' := by
  obtain ⟨i0, hi, hz0, hz1, hz2⟩ := info_parts info_int
  have HI := Lib.hid hi
  have HW := Lib.hid hw
  have HM := Lib.hid hm
  have HOK := Lib.hid hok
  obtain ⟨p, cap, rfl, hcap⟩ := hw.slice
  obtain ⟨q, qc, rfl, hqc⟩ := hm.cap
  have k1 : (ms.length : Int) < 6 := by omega
  have hll := (pOk_parts hok).1
  clear hw hm hok hi
  go_enter Try.func6, Try.ntmps6
  go_wp2_with fail
  refine (mayBe_ok _ _ _ l ms (HW.out.below (by (repeat (first | exact Below.refl _ _ | assumption | refine nw_more ?_ _ _ | refine nw_alloc ?_ _ | refine nw_drew ?_ | refine nw_drewN ?_ _ | refine nw_set ?_ (by first | (simp; done) | (simp; omega) | omega) _)))) (HM.out.below (by (repeat (first | exact Below.refl _ _ | assumption | refine nw_more ?_ _ _ | refine nw_alloc ?_ _ | refine nw_drew ?_ | refine nw_drewN ?_ _ | refine nw_set ?_ (by first | (simp; done) | (simp; omega) | omega) _)))) HOK.out).mono ?_
  (rintro e w' ⟨rfl, hb⟩; obtain ⟨n, es, rfl⟩ := below_more hb; clear hb)
  go_wp2_with fail
  refine (copied_any _ _ _ l ms (by omega) (HW.out.below (by (repeat (first | exact Below.refl _ _ | assumption | refine nw_more ?_ _ _ | refine nw_alloc ?_ _ | refine nw_drew ?_ | refine nw_drewN ?_ _ | refine nw_set ?_ (by first | (simp; done) | (simp; omega) | omega) _)))) (HM.out.below (by (repeat (first | exact Below.refl _ _ | assumption | refine nw_more ?_ _ _ | refine nw_alloc ?_ _ | refine nw_drew ?_ | refine nw_drewN ?_ _ | refine nw_set ?_ (by first | (simp; done) | (simp; omega) | omega) _))))).mono ?_
  rintro e w1 ⟨u1, v1, rfl, h1, h2, hb⟩
  have b1 : Blc w1 w.heap.size 25 #[.slice p l.length cap, .slice q ms.length qc] := Blc.below (by (repeat (first | exact Blc.newAt _ _ _ (by simp; done) | refine Blc.alloc ?_ _ | refine Blc.mre ?_ _ _))) hb
  have b2 : Blc w1 (w.heap.size + 1) 25 #[.slice none 0 0, .slice none 0 0] := Blc.below (by (repeat (first | exact Blc.newAt _ _ _ (by simp; done) | refine Blc.alloc ?_ _ | refine Blc.mre ?_ _ _))) hb
  have hbe : Below w.heap.size w w1 := nw_trans (by (repeat (first | exact Below.refl _ _ | assumption | refine nw_more ?_ _ _ | refine nw_alloc ?_ _ | refine nw_drew ?_ | refine nw_drewN ?_ _ | refine nw_set ?_ (by first | (simp; done) | (simp; omega) | omega) _))) hb
  have h1' := World.ownsRow.mono (base' := w.heap.size + 1 + 1) h1 (by simp)
  have h2' := World.ownsRow.mono (base' := w.heap.size + 1 + 1) h2 (by simp)
  obtain ⟨p1, c1, rfl⟩ := OwnW.slice h1
  obtain ⟨p2, c2, rfl⟩ := OwnN.slice h2
  have r0 := b2.cell 0
  have r1 := b2.cell 1
  have rf0 := b2.free 0
  have rf1 := b2.free 1
  have l2 : Lt (w.heap.size + 1) w1.heap.size := b2.lt
  have HB1 := Lib.hid (((b1.far (a := ⟨w.heap.size + 1, 0, none⟩) (by show ¬ w.heap.size = w.heap.size + 1; omega) (.slice p1 l.length c1))).far (a := ⟨w.heap.size + 1, 1, none⟩) (by show ¬ w.heap.size = w.heap.size + 1; omega) (.slice p2 ms.length c2))
  have HB2 := Lib.hid ((b2.set 0 (.slice p1 l.length c1)).set 1 (.slice p2 ms.length c2))
  have n1 := not_own h1' b2 (by decide)
  have n2 := not_own h2' b2 (by decide)
  have HO1 := Lib.hid (ownsRow_setCell_other (a := ⟨w.heap.size + 1, 1, none⟩) (ownsRow_setCell_other (a := ⟨w.heap.size + 1, 0, none⟩) h1' n1 (.slice p1 l.length c1)) n1 (.slice p2 ms.length c2))
  have HO2 := Lib.hid (ownsRow_setCell_other (a := ⟨w.heap.size + 1, 1, none⟩) (ownsRow_setCell_other (a := ⟨w.heap.size + 1, 0, none⟩) h2' n2 (.slice p1 l.length c1)) n2 (.slice p2 ms.length c2))
  have HBE := Lib.hid (nw_set (nw_set hbe (p := ⟨w.heap.size + 1, 0, none⟩) (by simp) (.slice p1 l.length c1)) (p := ⟨w.heap.size + 1, 1, none⟩) (by simp) (.slice p2 ms.length c2))
  simp at r0 r1
  clear n1 n2 b1 b2 hbe h1 h2 h1' h2' hb
  go_upto_region 6 with (fail)
  generalize ((w1.setCell ⟨w.heap.size + 1, 0, none⟩ (.slice p1 l.length c1)).setCell ⟨w.heap.size + 1, 1, none⟩ (.slice p2 ms.length c2)) = w3 at *
  simp only [List.setIfInBounds_toArray, List.set_cons_zero, List.set_cons_succ] at HB2
  have z0 := HB2.out.cell 0
  have z1 := HB2.out.cell 1
  have lz : Lt (w.heap.size + 1) w3.heap.size := HB2.out.lt
  simp only [List.getElem?_toArray, List.getElem?_cons_succ, List.getElem?_cons_zero] at z0 z1
  clear r0 r1 rf0 rf1 l2
  go_wp2_with (at_builtin; refine wpList_append_own _ rfl _ _ 23 rfl (w.heap.size + 1 + 1) 3 i0 (.int .i64 0) 1 8 Try.underlying23 HI.out hz0 hz1 hz2 rfl (by decide) _ _ _ rfl (World.ownsRow.alloc HO2.out _) ⟨_, 0, none⟩ 1 1 [.int .i64 l.length] rfl rfl ?c1 ?c2 ?c3 ?c4 ?c5 ?_)
  case c1 => exact news1 (by simp [go_sem])
  case c2 => exact news1_one (x := .int .i64 l.length) rfl
  case c3 => unfold maxLen; omega
  case c4 => omega
  case c5 => have := HB2.out.lt; simp; omega
  intro V w4 hown' hgrow hnil
  have hown2 : OwnN (w.heap.size + 1 + 1) w4 V (ms ++ [(l.length : Int)]) := by
    unfold OwnN
    rw [List.map_append, List.length_append]
    exact hown'
  have hlen : (ms ++ [(l.length : Int)]).length = ms.length + 1 := by simp
  obtain ⟨p4, c4, e4⟩ := OwnN.slice hown2
  rw [hlen] at e4
  subst e4
  have b1 := (HB1.out.alloc _).grown hgrow (not_own HO2.out HB1.out (by decide))
  have b2 := (HB2.out.alloc _).grown hgrow (not_own HO2.out HB2.out (by decide))
  have o1 := World.ownsRow.kept (World.ownsRow.alloc HO1.out _) hgrow (own_apart HO1.out HO2.out (by decide))
  have hbe : Below w.heap.size w w4 := below_append (w := w) (nw_alloc HBE.out _) (World.ownsRow.mono (World.ownsRow.alloc HO2.out _) (by omega)) hgrow
  have n1 := not_own o1 b2 (by decide)
  have n2 := not_own hown2 b2 (by decide)
  have q1 := b2.cell 1
  have qf1 := b2.free 1
  have lq : Lt (w.heap.size + 1) w4.heap.size := b2.lt
  simp only [List.getElem?_toArray, List.getElem?_cons_succ, List.getElem?_cons_zero] at q1
  have HC1 := Lib.hid (b1.far (a := ⟨w.heap.size + 1, 1, none⟩) (by show ¬ w.heap.size = w.heap.size + 1; omega) (.slice p4 (ms.length + 1) c4))
  have HC2 := Lib.hid (b2.set 1 (.slice p4 (ms.length + 1) c4))
  have HP1 := Lib.hid (ownsRow_setCell_other (a := ⟨w.heap.size + 1, 1, none⟩) o1 n1 (.slice p4 (ms.length + 1) c4))
  have HP2 := Lib.hid (ownsRow_setCell_other (a := ⟨w.heap.size + 1, 1, none⟩) hown2 n2 (.slice p4 (ms.length + 1) c4))
  have HBF := Lib.hid (nw_set hbe (p := ⟨w.heap.size + 1, 1, none⟩) (by simp) (.slice p4 (ms.length + 1) c4))
  clear hown' hown2 hgrow hnil b1 b2 o1 hbe n1 n2 HB1 HB2 HO1 HO2 HBE z0 z1 lz
  go_upto_region 7 with (fail)
  generalize (w4.setCell ⟨w.heap.size + 1, 1, none⟩ (.slice p4 (ms.length + 1) c4)) = w5 at *
  simp only [List.setIfInBounds_toArray, List.set_cons_zero, List.set_cons_succ] at HC2
  have x0 := HC1.out.cell 0
  have x1 := HC1.out.cell 1
  have y0 := HC2.out.cell 0
  have y1 := HC2.out.cell 1
  have yf0 := HC2.out.free 0
  have yf1 := HC2.out.free 1
  have lx : Lt w.heap.size w5.heap.size := HC1.out.lt
  have ly : Lt (w.heap.size + 1) w5.heap.size := HC2.out.lt
  simp only [List.getElem?_toArray, List.getElem?_cons_succ, List.getElem?_cons_zero] at x0 x1 y0 y1
  clear q1 qf1 lq
  have qq := (HC2.out.set 0 (.slice p1 l.length c1)).set 1 (.slice p4 (ms.length + 1) c4)
  have q0 := qq.cell 0
  have q1 := qq.cell 1
  simp at q0 q1
  have HWW : Hid (OwnW w.heap.size ((w5.setCell ⟨w.heap.size + 1, 0, none⟩ (.slice p1 l.length c1)).setCell ⟨w.heap.size + 1, 1, none⟩ (.slice p4 (ms.length + 1) c4)) (.slice p1 l.length c1) l) := Lib.hid (World.ownsRow.mono (ownsRow_setCell_other (a := ⟨w.heap.size + 1, 1, none⟩) (ownsRow_setCell_other (a := ⟨w.heap.size + 1, 0, none⟩) HP1.out (not_own HP1.out HC2.out (by decide)) (.slice p1 l.length c1)) (not_own HP1.out HC2.out (by decide)) (.slice p4 (ms.length + 1) c4)) (by omega))
  have HNN : Hid (OwnN w.heap.size ((w5.setCell ⟨w.heap.size + 1, 0, none⟩ (.slice p1 l.length c1)).setCell ⟨w.heap.size + 1, 1, none⟩ (.slice p4 (ms.length + 1) c4)) (.slice p4 (ms.length + 1) c4) (ms ++ [(l.length : Int)])) := Lib.hid (World.ownsRow.mono (ownsRow_setCell_other (a := ⟨w.heap.size + 1, 1, none⟩) (ownsRow_setCell_other (a := ⟨w.heap.size + 1, 0, none⟩) HP2.out (not_own HP2.out HC2.out (by decide)) (.slice p1 l.length c1)) (not_own HP2.out HC2.out (by decide)) (.slice p4 (ms.length + 1) c4)) (by omega))
  clear qq
  go_region
  all_goals
    go_wp2
    refine bodyPost_ret (v := pdThree (.slice p1 l.length c1) (.slice p4 (ms.length + 1) c4) ms.length 0) (by simp [pdThree, results, Try.results6, go_sem, q0, q1]) rfl ⟨_, _, rfl, HWW.out.below (nw_drew (Below.refl _ _)), HNN.out.below (nw_drew (Below.refl _ _)), ?_⟩
    exact nw_drew (nw_set (nw_set HBF.out (by simp) _) (by simp) _)
end Go.Proofs.Ytaalfmpajfpliaa
