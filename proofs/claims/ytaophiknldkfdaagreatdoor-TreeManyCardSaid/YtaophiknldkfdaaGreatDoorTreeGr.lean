/- Contract of the laws' helper that makes a tree. -/
import Derived.Test.YtaophiknldkfdaaGreatDoorTreeRg
import Derived.Test.YtaophiknldkfdaaGreatDoorTreeTr
import Derived.Test.YtaophiknldkfdaaGreatDoorTreeMi
import Derived.Test.YtaophiknldkfdaaGreatDoorTreeFi
namespace Go.Proofs.YtaophiknldkfdaaGreatDoor
open Go.RowKit

set_option maxRecDepth 100000 in
set_option maxHeartbeats 8000000 in
theorem grown_any {α : Type} (K : Ks α) (key : Nat → α) (f n : Nat) (t : Tr α) (rows : List (α × Int)) (d : Nat) (hf : f ≤ 2) (hn : n ≤ 99) (hkey : ∀ k, k < n → K.s (key k) = (⟨#[107]⟩ : ByteArray) ++ ⟨(digL 4 (100 + k)).toArray⟩) (hA : addsQ K key (fun i => wayAt f i n) n 0 newP = some t) (hok : okT t = true) (hW : treeW K t = some (rows, d)) (hr : rows.length = n) (w : World) :
    Calls Tryz.prog 36 #[.int .i64 n, .int .i64 f] w fun e w' => ∃ v u P, e = .returned (.tuple #[.agg #[v, .int .i64 t.root, u], .bool true]) ∧ TreeIn K (w.heap.size + 1) w' v u P t.free ∧ ndsOf P = t.nodes ∧ Below w.heap.size w w' := by
  have HKEY := Lib.hid hkey
  have HW := Lib.hid hW
  have HOK := Lib.hid hok
  have HR := Lib.hid hr
  have HA := Lib.hid hA
  clear hkey hW hok hr hA
  go_enter Tryz.func36, Tryz.ntmps36
  go_wp2_with fail
  refine (new_any K _).mono ?_
  rintro e w' ⟨nv, x, rfl, ho, hxn, hb⟩
  have HIN := Lib.hid ho.inn
  obtain ⟨np, nc, rfl, -⟩ := ho.inn.slice
  obtain ⟨n0, es0, rfl⟩ := below_more hb
  clear ho hb
  go_upto_region 3 with (fail)
  have HB0 : Hid (Below w.heap.size w ((more (w.alloc (Obj.cells #[Value.slice none 0 0, Value.int IntKind.i64 0, Value.slice none 0 0] 25)) n0 es0).alloc (Obj.cells #[Value.slice np 1 nc, Value.int IntKind.i64 0, Value.slice none 0 0] 25))) := Lib.hid (by (repeat (first | exact Below.refl _ _ | assumption | refine nw_more ?_ _ _ | refine nw_alloc ?_ _ | refine nw_drew ?_ | refine nw_drewN ?_ _ | refine nw_set ?_ (by first | (simp; done) | (simp; omega) | omega) _)))
  have HZ0 : Hid (Blc ((more (w.alloc (Obj.cells #[Value.slice none 0 0, Value.int IntKind.i64 0, Value.slice none 0 0] 25)) n0 es0).alloc (Obj.cells #[Value.slice np 1 nc, Value.int IntKind.i64 0, Value.slice none 0 0] 25)) w.heap.size 25 #[.slice none 0 0, .int .i64 0, .slice none 0 0]) := Lib.hid (((Blc.new _ _ _).mre _ _).alloc _)
  have HX0 : Hid (Blc ((more (w.alloc (Obj.cells #[Value.slice none 0 0, Value.int IntKind.i64 0, Value.slice none 0 0] 25)) n0 es0).alloc (Obj.cells #[Value.slice np 1 nc, Value.int IntKind.i64 0, Value.slice none 0 0] 25)) (w.heap.size + 1 + es0.size) 25 #[.slice np 1 nc, .int .i64 0, .slice none 0 0]) := Lib.hid (Blc.newAt _ _ _ (by simp))
  have HI0 : Hid (TreeIn K (w.heap.size + 1) ((more (w.alloc (Obj.cells #[Value.slice none 0 0, Value.int IntKind.i64 0, Value.slice none 0 0] 25)) n0 es0).alloc (Obj.cells #[Value.slice np 1 nc, Value.int IntKind.i64 0, Value.slice none 0 0] 25)) (.slice np 1 nc) (.slice none 0 0) [x] []) := Lib.hid ⟨by
    have h := HIN.out.below (w' := ((more (w.alloc (Obj.cells #[Value.slice none 0 0, Value.int IntKind.i64 0, Value.slice none 0 0] 25)) n0 es0).alloc (Obj.cells #[Value.slice np 1 nc, Value.int IntKind.i64 0, Value.slice none 0 0] 25))) (by (repeat (first | exact Below.refl _ _ | assumption | refine nw_more ?_ _ _ | refine nw_alloc ?_ _ | refine nw_drew ?_ | refine nw_drewN ?_ _ | refine nw_set ?_ (by first | (simp; done) | (simp; omega) | omega) _)))
    have e : (w.alloc (Obj.cells #[Value.slice none 0 0, Value.int IntKind.i64 0, Value.slice none 0 0] 25)).heap.size = w.heap.size + 1 := by simp
    rw [e] at h
    exact h, IntsIn.nil _ _⟩
  have HA0 : Hid (addsQ K key (fun i => wayAt f i n) (n - 0) 0 (Tr.mk (ndsOf [x]) 0 []) = some t) := Lib.hid (by
    rw [show ndsOf [x] = [⟨[], [], [], true⟩] by simp [ndsOf, hxn]]
    exact HA.out)
  have htb : w.heap.size + 1 ≤ w.heap.size + 1 + es0.size := by omega
  clear HIN HA hxn
  generalize ((more (w.alloc (Obj.cells #[Value.slice none 0 0, Value.int IntKind.i64 0, Value.slice none 0 0] 25)) n0 es0).alloc (Obj.cells #[Value.slice np 1 nc, Value.int IntKind.i64 0, Value.slice none 0 0] 25)) = W0 at *
  generalize w.heap.size + 1 + es0.size = tb at *
  go_loopg [7] (n + 1) (fun g s7 wr => ∃ i : Nat, i ≤ n ∧ g + i = n + 1 ∧ s7 = .int .i64 i ∧ ∃ (np fp : Option Addr) (nc fc : Nat) (r : Int) (P : List (Nv α)) (F : List Int), Hid (addsQ K key (fun i => wayAt f i n) (n - i) i (Tr.mk (ndsOf P) r F) = some t) ∧ Hid (TreeIn K (w.heap.size + 1) wr (.slice np P.length nc) (.slice fp F.length fc) P F) ∧ Hid (Blc wr tb 25 #[.slice np P.length nc, .int .i64 r, .slice fp F.length fc]) ∧ Hid (Blc wr w.heap.size 25 #[.slice none 0 0, .int .i64 0, .slice none 0 0]) ∧ Hid (Below w.heap.size w wr))
  case atStart => exact ⟨0, Nat.zero_le _, by omega, rfl, np, none, nc, 0, 0, [x], [], HA0, HI0, HX0, HZ0, HB0⟩
  case round =>
    obtain ⟨i, hi, hg, rfl, np1, fp, nc1, fc, r, P, F, HA, HI, HX, HZ, HB⟩ := hrel
    obtain rfl : gk = n + 1 - i := by omega
    clear hg HA0 HI0 HX0 HZ0 HB0
    have x0 := HX.out.cell 0
    have x1 := HX.out.cell 1
    have x2 := HX.out.cell 2
    have xl : Lt tb wr.heap.size := HX.out.lt
    have g0 := HX.out.free 0
    have g1 := HX.out.free 1
    have g2 := HX.out.free 2
    simp only [List.getElem?_toArray, List.getElem?_cons_succ, List.getElem?_cons_zero] at x0 x1 x2
    by_cases hlt : i < n
    · have hA2 := HA.out
      rw [show n - i = (n - (i + 1)) + 1 by omega] at hA2
      obtain ⟨hk1, t2, hadd, hk2, hrest⟩ := addsQ_step hA2
      obtain ⟨hp500, hf500, hlens, -⟩ := okT_parts hk1
      have HK2 := Lib.hid hk2
      have HADD := Lib.hid hadd
      have HREST := Lib.hid hrest
      have HLENS := Lib.hid hlens
      have hkn := wayAt_lt (f := f) hlt
      have HW1 : Hid (wayAt f i n = wayAt f i n) := Lib.hid rfl
      have HKE := Lib.hid (HKEY.out _ hkn)
      have hin2 : (i : Int) < (n : Int) := by omega
      clear hA2 hk1 hk2 hadd hrest hlens
      go_upto_region 6 with (first | (go_at_call 37; refine (at_any _ f i n hf hlt (by omega)).mono ?_; rintro e w' ⟨rfl, rfl⟩))
      generalize wayAt f i n = k at *
      clear HW1
      have HDG0 : Hid (∀ w9 : World, Calls Tryz.prog 11 #[.int .i64 (100 + (k : Int))] w9 fun e w' => e = .returned (.string ⟨(digL 4 (100 + k)).toArray⟩) ∧ Below w9.heap.size w9 w') := Lib.hid (fun w9 => by
        have := digits_any w9 (100 + k) (by omega)
        rwa [show ((100 + k : Nat) : Int) = 100 + (k : Int) by omega] at this)
      generalize (⟨(digL 4 (100 + k)).toArray⟩ : ByteArray) = D at *
      have HDG := HDG0
      have hDs : D.size ≤ 140737488355328 := by
        have h1 := K.hsz (key k)
        rw [HKE.out, ByteArray.size_append] at h1
        omega
      have hsl : ¬ 9223372036854775807 < 1 + D.size := by omega
      have HIW := Lib.hid (fun (w9 : World) (hb : Below wr.heap.size wr w9) => by
        have h := add_any K (w.heap.size + 1) w9 _ _ r P F (key k) (k : Int) t2 (HI.out.below hb) HLENS.out hp500 hf500 (by
          have h2 := HK2.out
          unfold okT at h2
          simp only [Bool.and_eq_true, decide_eq_true_eq] at h2
          exact h2.2.1) HADD.out
        rw [HKE.out] at h
        exact h)
      clear HDG0
      have hw1 : IntKind.i64.wrap (100 + (k : Int)) = 100 + (k : Int) := IntWalk.i64_in _ (by omega)
      obtain ⟨C0, hC0⟩ : ∃ C0 : World → Prop, ∀ w9, C0 w9 ↔ (w9.cell? ⟨tb, 0, none⟩ = some (.slice np1 P.length nc1) ∧ w9.cell? ⟨tb, 1, none⟩ = some (.int .i64 r) ∧ w9.cell? ⟨tb, 2, none⟩ = some (.slice fp F.length fc)) := ⟨_, fun _ => Iff.rfl⟩
      have hCall : ∀ m w9, RgPost K wr t2 D (.int .i64 0) undef m w9 → C0 w9 := fun m w9 hp => (hC0 _).2 ⟨(hp.1.cell (p := ⟨tb, 0, none⟩) xl).trans x0, (hp.1.cell (p := ⟨tb, 1, none⟩) xl).trans x1, (hp.1.cell (p := ⟨tb, 2, none⟩) xl).trans x2⟩
      refine wp_region_par [3, 6, 10, 11, 12] [#[.tmp 27], #[.tmp 25, .tmp 29, .tmp 30], #[], #[.tmp 9, .tmp 32], #[.tmp 33]] (fun t j => (t == 1 && j == 0) || (t == 3 && decide (j < 3)) || (t == 4 && decide (j < 4))) (by kernel_rfl) (by kernel_rfl) (fun m => by kernel_rfl) (fun w9 => ∃ p : Among C0, w9 = p.w) (fun t m => match t with
        | 0 => #[.int .i64 (100 + (k : Int))]
        | 1 => #[.agg #[.slice np1 P.length nc1, .int .i64 r, .slice fp F.length fc], .string ((⟨#[107]⟩ : ByteArray) ++ D), .int .i64 k]
        | 2 => #[]
        | 3 => #[(m 2).getD undef, fstV ((m 1).getD undef)]
        | _ => #[sndV ((m 1).getD undef)]) (RgPost K wr t2 D (.int .i64 0) undef) (rg_start wr) (fun m w9 hp _ => ⟨⟨w9, hCall m w9 hp⟩, rfl⟩) (fun m w9 hp => ?hfull) (fun t m m' ht hpre hext => ?hdep) ?hstep ?hwalk
      case hfull =>
        obtain ⟨m', w', h1, h2, h3⟩ := rg_full hp (fun w9 hb => by
          obtain ⟨e, w', fr, ho, -⟩ := HIW.out w9 hb []
          exact ⟨e, w', ho⟩)
        exact ⟨m', w', h1, fun t ht => h2 t (by have : t < 5 := ht; omega), h3⟩
      case hdep =>
        match t, ht with
        | 0, _ => rfl
        | 1, _ => rfl
        | 2, _ => rfl
        | 3, _ =>
          obtain ⟨x, hx⟩ := Option.ne_none_iff_exists'.1 (hpre 1 (by decide) rfl)
          obtain ⟨y, hy⟩ := Option.ne_none_iff_exists'.1 (hpre 2 (by decide) rfl)
          simp only [hx, hy, hext _ _ hx, hext _ _ hy]
        | 4, _ =>
          obtain ⟨x, hx⟩ := Option.ne_none_iff_exists'.1 (hpre 1 (by decide) rfl)
          simp only [hx, hext _ _ hx]
      case hstep =>
        intro t m w9 o hp ht hmt hpre ho a next hargs hn
        match t, ht with
        | 0, _ =>
          obtain rfl := Option.some.inj ho
          have e1 : a.eval (.tmp 27) = .int .i64 (100 + (k : Int)) := by simpa using congrArg (fun (x : Array Value) => x.getD 0 undef) hargs
          unfold Oper.wp execOp
          have e2 : a.tmps[27]?.getD undef = .int .i64 (100 + (k : Int)) := by simpa [go_sem] using e1
          simp [e2, go_sem]
          refine (HDG.out w9).mono ?_
          rintro e w' ⟨rfl, hb⟩
          exact hn _ _ (rg_dig hp hmt hb)
        | 1, _ =>
          obtain rfl := Option.some.inj ho
          have e1 : a.eval (.tmp 25) = .agg #[.slice np1 P.length nc1, .int .i64 r, .slice fp F.length fc] := by simpa using congrArg (fun (x : Array Value) => x.getD 0 undef) hargs
          have e2 : a.eval (.tmp 29) = .string ((⟨#[107]⟩ : ByteArray) ++ D) := by simpa using congrArg (fun (x : Array Value) => x.getD 1 undef) hargs
          have e3 : a.eval (.tmp 30) = .int .i64 k := by simpa using congrArg (fun (x : Array Value) => x.getD 2 undef) hargs
          unfold Oper.wp execOp
          have e4 : a.tmps[25]?.getD undef = .agg #[.slice np1 P.length nc1, .int .i64 r, .slice fp F.length fc] := by simpa [go_sem] using e1
          have e5 : a.tmps[29]?.getD undef = .string ((⟨#[107]⟩ : ByteArray) ++ D) := by simpa [go_sem] using e2
          have e6 : a.tmps[30]?.getD undef = .int .i64 k := by simpa [go_sem] using e3
          simp [e4, e5, e6, go_sem]
          refine (HIW.out w9 hp.1).mono ?_
          intro e w' ho2
          obtain ⟨x, rfl, hp2⟩ := rg_call hp hmt (hpre 0 (by decide) rfl) ho2
          exact hn _ _ hp2
        | 2, _ =>
          obtain rfl := Option.some.inj ho
          unfold Oper.wp execOp
          simp [go_sem]
          exact hn _ _ (rg_new hp hmt _ _ _)
        | 3, _ =>
          obtain rfl := Option.some.inj ho
          obtain ⟨xx, hx⟩ := Option.ne_none_iff_exists'.1 (hpre 1 (by decide) rfl)
          obtain ⟨yy, hy⟩ := Option.ne_none_iff_exists'.1 (hpre 2 (by decide) rfl)
          obtain ⟨v', u', P', rfl, -, hin', -⟩ := hp.2.2.2.2.1 xx hx
          obtain ⟨g, rfl, hgw, ⟨c0, c1, c2, hbl⟩, -⟩ := hp.2.2.2.2.2.1 yy hy
          obtain ⟨vp, vc, rfl, -⟩ := hin'.1.slice
          obtain ⟨up, uc, rfl, -⟩ := hin'.2.slice
          have e1 : a.eval (.tmp 9) = .pointer (some ⟨g, 0, none⟩) := by
            have := congrArg (fun (x : Array Value) => x.getD 0 undef) hargs
            simpa [hy] using this
          have e2 : a.eval (.tmp 32) = .agg #[.slice vp P'.length vc, .int .i64 t2.root, .slice up t2.free.length uc] := by
            have := congrArg (fun (x : Array Value) => x.getD 1 undef) hargs
            simpa [hx, T2, fstV] using this
          have s0 := hbl.cell 0
          have s1 := hbl.cell 1
          have s2 := hbl.cell 2
          have f0 := hbl.free 0
          have f1 := hbl.free 1
          have f2 := hbl.free 2
          have sl := hbl.lt
          simp only [List.getElem?_toArray, List.getElem?_cons_succ, List.getElem?_cons_zero] at s0 s1 s2
          unfold Oper.wp execOp
          have e3 : a.tmps[9]?.getD undef = .pointer (some ⟨g, 0, none⟩) := by simpa [go_sem] using e1
          have e4 : a.tmps[32]?.getD undef = .agg #[.slice vp P'.length vc, .int .i64 t2.root, .slice up t2.free.length uc] := by simpa [go_sem] using e2
          simp [e3, e4, s0, s1, s2, f0, f1, f2, go_sem]
          exact hn undef _ (rg_store hp hmt hx hy)
        | 4, _ =>
          obtain rfl := Option.some.inj ho
          obtain ⟨xx, hx⟩ := Option.ne_none_iff_exists'.1 (hpre 1 (by decide) rfl)
          obtain ⟨v', u', P', rfl, -⟩ := hp.2.2.2.2.1 xx hx
          have e1 : a.eval (.tmp 33) = .int .i64 0 := by
            have := congrArg (fun (x : Array Value) => x.getD 0 undef) hargs
            simpa [hx, T2, sndV] using this
          unfold Oper.wp execOp
          have e3 : a.tmps[33]?.getD undef = .int .i64 0 := by simpa [go_sem] using e1
          simp [e3, go_sem]
          exact hn _ _ (rg_four hp)
      case hwalk =>
        intro m w9 hp hF
        obtain ⟨v0, h0⟩ := Option.ne_none_iff_exists'.1 (hF 0 (by decide))
        obtain ⟨v1, h1⟩ := Option.ne_none_iff_exists'.1 (hF 1 (by decide))
        obtain ⟨v2, h2⟩ := Option.ne_none_iff_exists'.1 (hF 2 (by decide))
        obtain ⟨v3, h3⟩ := Option.ne_none_iff_exists'.1 (hF 3 (by decide))
        obtain ⟨v4, h4⟩ := Option.ne_none_iff_exists'.1 (hF 4 (by decide))
        obtain ⟨a1, -, -, a4, a5, a6, a7, -, a9⟩ := hp
        obtain rfl := a4 v0 h0
        obtain ⟨v', u', P', rfl, hnd, hin', -⟩ := a5 v1 h1
        obtain ⟨g, rfl, hgw, -, hbl⟩ := a6 v2 h2
        obtain rfl := a9 v3 h3
        obtain rfl := a7 v4 h4
        have hbl2 := hbl (by rw [h3]; simp) v' u' h1
        obtain ⟨vp, vc, rfl, -⟩ := hin'.1.slice
        obtain ⟨up, uc, rfl, -⟩ := hin'.2.slice
        have HBL := Lib.hid hbl2
        have HIN := Lib.hid hin'
        have HB9 := Lib.hid a1
        have HND := Lib.hid hnd
        have HGW := Lib.hid hgw
        clear a1 a4 a5 a6 a7 a9 hbl hbl2 hin' hnd hgw
        simp only [opsP, dumP, posOf, Nat.reduceAdd, Nat.reduceEqDiff, if_false, if_true, Option.map_none, Option.map_some, h0, h1, h2, h3, h4, Option.getD_some, T2]
        have c0 : ∀ p : Among C0, p.w.cell? ⟨tb, 0, none⟩ = some (.slice np1 P.length nc1) := fun p => ((hC0 _).1 p.ok).1
        have c1 : ∀ p : Among C0, p.w.cell? ⟨tb, 1, none⟩ = some (.int .i64 r) := fun p => ((hC0 _).1 p.ok).2.1
        have c2 : ∀ p : Among C0, p.w.cell? ⟨tb, 2, none⟩ = some (.slice fp F.length fc) := fun p => ((hC0 _).1 p.ok).2.2
        have hinh : Nonempty (Among C0) := ⟨⟨wr, (hC0 _).2 ⟨x0, x1, x2⟩⟩⟩
        (repeat (first | go_big_quiet_skip | quiet_step (fail)))
        refine ⟨fun j hj => ?_, ?_⟩
        · match j, hj with
          | 0, _ => simp [go_sem]
          | 1, _ => simp [go_sem]
          | 2, _ => simp [go_sem]
          | 3, _ => simp [go_sem, h1, h2, T2, fstV]
          | 4, _ => simp [go_sem, h1, T2, sndV]
        · clear c0 c1 c2 hinh hCall hC0 h0 h1 h2 h3 h4 hF HDG HIW hsl hw1
          have y0 := HBL.out.cell 0
          have y1 := HBL.out.cell 1
          have y2 := HBL.out.cell 2
          have yl : Lt g w9.heap.size := HBL.out.lt
          have HX9 := Lib.hid (HX.out.below HB9.out)
          have z0 := HX9.out.cell 0
          have z1 := HX9.out.cell 1
          have z2 := HX9.out.cell 2
          have q0 := HX9.out.free 0
          have q1 := HX9.out.free 1
          have q2 := HX9.out.free 2
          have zl : Lt tb w9.heap.size := HX9.out.lt
          simp only [List.getElem?_toArray, List.getElem?_cons_succ, List.getElem?_cons_zero] at y0 y1 y2 z0 z1 z2
          go_wp2_with (first | (go_at_call 12; refine (num6_any _ _).mono ?_; rintro e w' ⟨rfl, rfl⟩))
          go_roundg (n + 1 - i - 1)
          case measure => omega
          case rel =>
            have hgt : tb < wr.heap.size := xl
            have hst : ∀ (W : World) (j : Nat) (x : Value), TreeIn K wr.heap.size W (.slice vp P'.length vc) (.slice up t2.free.length uc) P' t2.free → TreeIn K wr.heap.size (W.setCell ⟨tb, j, none⟩ x) (.slice vp P'.length vc) (.slice up t2.free.length uc) P' t2.free := fun W j x h => h.stays (Stays.set (a := ⟨tb, j, none⟩) hgt x)
            refine ⟨i + 1, by omega, by omega, by go_num, vp, up, vc, uc, t2.root, P', t2.free, ?_, Lib.hid ?_, Lib.hid ?_, Lib.hid ?_, Lib.hid ?_⟩
            · have e : Tr.mk (ndsOf P') t2.root t2.free = t2 := by rw [HND.out]
              rw [e]
              exact HREST
            · exact (hst _ _ _ (hst _ _ _ (hst _ _ _ HIN.out))).mono (Nat.le_trans htb (Nat.le_of_lt hgt))
            · exact ((HX9.out.set 0 _).set 1 _).set 2 _
            · have hzw : w.heap.size ≠ tb := by omega
              exact (((HZ.out.below HB9.out).far (a := ⟨tb, 0, none⟩) hzw _).far (a := ⟨tb, 1, none⟩) hzw _).far (a := ⟨tb, 2, none⟩) hzw _
            · have hbel := nw_trans HB.out HB9.out
              exact nw_set (nw_set (nw_set hbel (by show w.heap.size ≤ tb; omega) _) (by show w.heap.size ≤ tb; omega) _) (by show w.heap.size ≤ tb; omega) _
    · have hin : i = n := by omega
      subst hin
      have hnlt : ¬ (i : Int) < (i : Int) := by omega
      have hT : Tr.mk (ndsOf P) r F = t := by
        have h := HA.out
        rw [Nat.sub_self] at h
        exact Option.some.inj h
      have HTT := Lib.hid hT
      have HW2 := Lib.hid HW.out
      rw [← hT] at HW2
      have hok2 := HOK.out
      rw [← hT] at hok2
      obtain ⟨-, -, -, hsm⟩ := okT_parts hok2
      have HSM := Lib.hid hsm
      clear hT hok2 hsm
      go_wp2_with fail
      refine (tree_any K (w.heap.size + 1) _ _ _ r P F rows d HI.out HSM.out HW2.out (by rw [HR.out]; omega)).mono ?_
      rintro e w' ⟨rp, rc, rfl, hb⟩
      rw [HR.out]
      obtain ⟨n1, es1, rfl⟩ := below_more hb
      clear hb
      have y0 := HZ.out.cell 0
      have y1 := HZ.out.cell 1
      have y2 := HZ.out.cell 2
      have q0 := HZ.out.free 0
      have q1 := HZ.out.free 1
      have q2 := HZ.out.free 2
      have zl : Lt w.heap.size wr.heap.size := HZ.out.lt
      simp only [List.getElem?_toArray, List.getElem?_cons_succ, List.getElem?_cons_zero] at y0 y1 y2
      go_wp2_with fail
      have hst : ∀ (W : World) (j : Nat) (x : Value), TreeIn K (w.heap.size + 1) W (.slice np1 P.length nc1) (.slice fp F.length fc) P F → TreeIn K (w.heap.size + 1) (W.setCell ⟨w.heap.size, j, none⟩ x) (.slice np1 P.length nc1) (.slice fp F.length fc) P F := fun W j x h => h.stays (Stays.set (a := ⟨w.heap.size, j, none⟩) (Nat.lt_succ_self _) x)
      have hb3 : Blc (more (((wr.setCell ⟨w.heap.size, 0, none⟩ (.slice np1 P.length nc1)).setCell ⟨w.heap.size, 1, none⟩ (.int .i64 r)).setCell ⟨w.heap.size, 2, none⟩ (.slice fp F.length fc)) n1 es1) w.heap.size 25 #[.slice np1 P.length nc1, .int .i64 r, .slice fp F.length fc] := (((HZ.out.set 0 _).set 1 _).set 2 _).mre _ _
      have k0 := hb3.cell 0
      have k1 := hb3.cell 1
      have k2 := hb3.cell 2
      simp only [List.getElem?_toArray, List.getElem?_cons_succ, List.getElem?_cons_zero] at k0 k1 k2
      have hroot : t.root = r := by rw [← HTT.out]
      have hfree : t.free = F := by rw [← HTT.out]
      have hnodes : t.nodes = ndsOf P := by rw [← HTT.out]
      rw [hroot, hfree, hnodes]
      refine bodyPost_ret (v := .tuple #[.agg #[.slice np1 P.length nc1, .int .i64 r, .slice fp F.length fc], .bool true]) (by simp [results, Tryz.results36, go_sem, k0, k1, k2]) rfl ⟨_, _, P, rfl, ?_, rfl, ?_⟩
      · exact (hst _ _ _ (hst _ _ _ (hst _ _ _ HI.out))).below (by (repeat (first | exact Below.refl _ _ | assumption | refine nw_more ?_ _ _ | refine nw_alloc ?_ _ | refine nw_drew ?_ | refine nw_drewN ?_ _ | refine nw_set ?_ (by first | (simp; done) | (simp; omega) | omega) _)))
      · have hbel := HB.out
        (repeat (first | exact Below.refl _ _ | assumption | refine nw_more ?_ _ _ | refine nw_alloc ?_ _ | refine nw_drew ?_ | refine nw_drewN ?_ _ | refine nw_set ?_ (by first | (simp; done) | (simp; omega) | omega) _))
end Go.Proofs.YtaophiknldkfdaaGreatDoor
