/- The laws on trees, key by key. No condition. -/
import Derived.Test.YtaophiknldkfdaaGreatDoorTreeGr
import Derived.Test.YtaophiknldkfdaaGreatDoorTreeFi
namespace Go.Proofs.YtaophiknldkfdaaGreatDoor
open Go.RowKit

/-- One key alone: "a". -/
def KA : Ks Unit where
  s := fun _ => ⟨#[97]⟩
  lt := fun _ _ => false
  ok := fun _ => true
  hlt := fun _ _ => by
    unfold lessB
    rw [Lib.toList_data]
    decide
  hok := fun _ => by decide
  hsz := fun _ => by decide
theorem ka_check : (match addP KA newP () 7 with
    | none => false
    | some t2 => decide (t2.free.length ≤ 500) && (decide (t2.nodes.length ≤ 500) && decide (findP KA t2 () = some 7))) = true := by decide +kernel
theorem ka_parts : ∃ t2, addP KA newP () 7 = some t2 ∧ t2.free.length ≤ 500 ∧ t2.nodes.length ≤ 500 ∧ findP KA t2 () = some 7 := by
  have h := ka_check
  split at h
  · cases h
  · rename_i t2 h2
    simp only [Bool.and_eq_true, decide_eq_true_eq] at h
    exact ⟨t2, h2, h.1, h.2.1, h.2.2⟩
set_option maxRecDepth 100000 in
set_option maxHeartbeats 2000000 in
theorem wakes6_any (w : World) :
    Calls Tryz.prog 18 #[] w fun e w' => e = .returned (.bool true) ∧ Below w.heap.size w w' := by
  obtain ⟨t2, hadd, hfr, hnd2, hfind⟩ := ka_parts
  have HADD := Lib.hid hadd
  have HFIND := Lib.hid hfind
  clear hadd hfind
  go_enter Tryz.func18, Tryz.ntmps18
  go_wp2_with fail
  refine (new_any KA _).mono ?_
  rintro e w' ⟨nv, x, rfl, ho, hxn, hb⟩
  have HIN := Lib.hid ho.inn
  obtain ⟨np, nc, rfl, -⟩ := ho.inn.slice
  obtain ⟨n0, es0, rfl⟩ := below_more hb
  have HADD2 : Hid (addP KA (Tr.mk (ndsOf [x]) 0 []) () 7 = some t2) := Lib.hid (by
    rw [show ndsOf [x] = [⟨[], [], [], true⟩] by simp [ndsOf, hxn]]
    exact HADD.out)
  have HLENS : Hid (∀ y ∈ [x], y.n.keys.length ≤ 500 ∧ y.n.rows.length ≤ 500 ∧ y.n.kids.length ≤ 500) := Lib.hid (fun y hy => by
    obtain rfl := List.mem_singleton.1 hy
    rw [hxn]; simp)
  clear ho hb hxn
  go_wp2_with fail
  refine (add_any KA w.heap.size _ _ _ 0 [x] [] () 7 t2 ⟨HIN.out, IntsIn.nil _ _⟩ HLENS.out (by simp) (by simp) hfr HADD2.out).mono ?_
  rintro e w' ⟨v', u', P', rfl, hin, hnd, hb⟩
  have HI2 := Lib.hid hin
  have HND := Lib.hid hnd
  obtain ⟨vp, vc, rfl, -⟩ := hin.1.slice
  obtain ⟨up, uc, rfl, -⟩ := hin.2.slice
  obtain ⟨n1, es1, rfl⟩ := below_more hb
  clear hin hnd hb
  have HP5 : Hid (P'.length ≤ 500) := Lib.hid (by rw [← nds_len P', HND.out]; exact hnd2)
  go_wp2_with fail
  refine (find_any KA _ _ _ _ t2.root P' t2.free () 7 (HI2.out.below (by (repeat (first | exact Below.refl _ _ | assumption | refine nw_more ?_ _ _ | refine nw_alloc ?_ _ | refine nw_drew ?_ | refine nw_drewN ?_ _ | refine nw_set ?_ (by first | (simp; done) | (simp; omega) | omega) _)))) HP5.out (by rw [HND.out]; exact HFIND.out)).mono ?_
  (rintro e w' ⟨rfl, hb⟩; obtain ⟨n, es, rfl⟩ := below_more hb; clear hb)
  go_wp2_with (first | (go_at_call 12; refine (num6_any _ _).mono ?_; rintro e w' ⟨rfl, rfl⟩))
  go_ret
  exact ⟨rfl, by (repeat (first | exact Below.refl _ _ | assumption | refine nw_more ?_ _ _ | refine nw_alloc ?_ _ | refine nw_drew ?_ | refine nw_drewN ?_ _ | refine nw_set ?_ (by first | (simp; done) | (simp; omega) | omega) _))⟩

set_option maxRecDepth 100000 in
set_option maxHeartbeats 8000000 in
theorem each_any {α : Type} (K : Ks α) (key : Nat → α) (up down : Nat) (hup : up ≤ 2) (hdn : down ≤ 2) (hkey : ∀ k, k < 45 → K.s (key k) = (⟨#[107]⟩ : ByteArray) ++ ⟨(digL 4 (100 + k)).toArray⟩) (hE : ∀ n, n < 40 → eachQ K key up down (5 + n) = true) (w : World) (c0 c1 c2 : Value) (pa : Option Addr) (na ca : Nat) (_hna : na ≤ maxLen) :
    Calls Tryz.prog 19 #[.agg #[c0, c1, c2, .slice pa na ca], .int .i64 up, .int .i64 down] w fun e w' => e = .returned (.bool true) ∧ Below w.heap.size w w' := by
  have HKEY0 := Lib.hid hkey
  have HE := Lib.hid hE
  clear hkey hE
  go_enter Tryz.func19, Tryz.ntmps19
  go_wp2_with (first | (go_at_call 8; refine (within_any _ 40 _ (by decide) (by decide)).mono ?_; rintro e w' ⟨⟨q, hq, rfl⟩, rfl⟩))
  have HEQ := Lib.hid (eachQ_parts (HE.out q hq))
  clear HE
  have hq5 : (5 : Int) + (q : Int) = ((5 + q : Nat) : Int) := by omega
  rw [hq5]
  generalize hn5 : 5 + q = n at *
  have hn : n ≤ 44 := by omega
  have HKEY : Hid (∀ k, k < n → K.s (key k) = (⟨#[107]⟩ : ByteArray) ++ ⟨(digL 4 (100 + k)).toArray⟩) := Lib.hid (fun k hk => HKEY0.out k (by omega))
  clear HKEY0 hq5
  obtain ⟨t, hA, hok, rows0, d0, hW, hr0, hC0⟩ := HEQ.out
  have HC0 := Lib.hid hC0
  have HGR := Lib.hid (grown_any K key up n t rows0 d0 hup (by omega) HKEY.out hA hok hW hr0)
  clear HEQ hA hok hW hr0 hC0
  refine (HGR.out _).mono ?_
  rintro e w' ⟨v, u, P0, rfl, hin, hnd, hb⟩
  have HIN0 := Lib.hid hin
  have HND0 := Lib.hid hnd
  obtain ⟨vp0, vc0, rfl, -⟩ := hin.1.slice
  obtain ⟨up0, uc0, rfl, -⟩ := hin.2.slice
  obtain ⟨n1, es1, rfl⟩ := below_more hb
  clear hin hnd hb HGR
  have HB0 : Hid (Below w.heap.size w ((more (w.alloc (Obj.cells #[c0, c1, c2, .slice pa na ca] 28)) n1 es1).alloc (Obj.cells #[.slice vp0 P0.length vc0, .int .i64 t.root, .slice up0 t.free.length uc0] 25))) := Lib.hid (by (repeat (first | exact Below.refl _ _ | assumption | refine nw_more ?_ _ _ | refine nw_alloc ?_ _ | refine nw_drew ?_ | refine nw_drewN ?_ _ | refine nw_set ?_ (by first | (simp; done) | (simp; omega) | omega) _)))
  have HX0 : Hid (Blc ((more (w.alloc (Obj.cells #[c0, c1, c2, .slice pa na ca] 28)) n1 es1).alloc (Obj.cells #[.slice vp0 P0.length vc0, .int .i64 t.root, .slice up0 t.free.length uc0] 25)) (w.heap.size + 1 + es1.size) 25 #[.slice vp0 P0.length vc0, .int .i64 t.root, .slice up0 t.free.length uc0]) := Lib.hid (Blc.newAt _ _ _ (by simp))
  have HI0 : Hid (TreeIn K 0 ((more (w.alloc (Obj.cells #[c0, c1, c2, .slice pa na ca] 28)) n1 es1).alloc (Obj.cells #[.slice vp0 P0.length vc0, .int .i64 t.root, .slice up0 t.free.length uc0] 25)) (.slice vp0 P0.length vc0) (.slice up0 t.free.length uc0) P0 t.free) := Lib.hid ((HIN0.out.below (by (repeat (first | exact Below.refl _ _ | assumption | refine nw_more ?_ _ _ | refine nw_alloc ?_ _ | refine nw_drew ?_ | refine nw_drewN ?_ _ | refine nw_set ?_ (by first | (simp; done) | (simp; omega) | omega) _)))).mono (Nat.zero_le _))
  have HC1 : Hid (cutsQ K key (fun i => wayAt down i n) (n - 0) 0 (Tr.mk (ndsOf P0) t.root t.free) = true) := Lib.hid (by
    rw [HND0.out]
    exact HC0.out)
  have htb : w.heap.size + 1 ≤ w.heap.size + 1 + es1.size := by omega
  go_upto_region 6 with (fail)
  clear HIN0 HND0 HC0
  generalize ((more (w.alloc (Obj.cells #[c0, c1, c2, .slice pa na ca] 28)) n1 es1).alloc (Obj.cells #[.slice vp0 P0.length vc0, .int .i64 t.root, .slice up0 t.free.length uc0] 25)) = W0 at *
  generalize w.heap.size + 1 + es1.size = tb at *
  go_loopg [10] (n + 1) (fun g s10 wr => ∃ i : Nat, i ≤ n ∧ g + i = n + 1 ∧ s10 = .int .i64 i ∧ ∃ (np fp : Option Addr) (nc fc : Nat) (r : Int) (P : List (Nv α)) (F : List Int), Hid (cutsQ K key (fun i => wayAt down i n) (n - i) i (Tr.mk (ndsOf P) r F) = true) ∧ Hid (TreeIn K 0 wr (.slice np P.length nc) (.slice fp F.length fc) P F) ∧ Hid (Blc wr tb 25 #[.slice np P.length nc, .int .i64 r, .slice fp F.length fc]) ∧ Hid (Below w.heap.size w wr))
  case atStart => exact ⟨0, Nat.zero_le _, by omega, rfl, vp0, up0, vc0, uc0, t.root, P0, t.free, HC1, HI0, HX0, HB0⟩
  case round =>
    obtain ⟨i, hi, hg, rfl, np1, fp, nc1, fc, r, P, F, HC, HI, HX, HB⟩ := hrel
    obtain rfl : gk = n + 1 - i := by omega
    clear hg HC1 HI0 HX0 HB0
    have x0 := HX.out.cell 0
    have x1 := HX.out.cell 1
    have x2 := HX.out.cell 2
    have xl : Lt tb wr.heap.size := HX.out.lt
    have g0 := HX.out.free 0
    have g1 := HX.out.free 1
    have g2 := HX.out.free 2
    simp only [List.getElem?_toArray, List.getElem?_cons_succ, List.getElem?_cons_zero] at x0 x1 x2
    by_cases hlt : i < n
    · have hC2 := HC.out
      rw [show n - i = (n - (i + 1)) + 1 by omega] at hC2
      obtain ⟨hk1, t2, hcut, hk2, rows, d, htw, hrl, hrest⟩ := cutsQ_step hC2
      obtain ⟨hp500, hf500, hlens, -⟩ := okT_parts hk1
      have HK2 := Lib.hid hk2
      have HADD := Lib.hid hcut
      have HREST := Lib.hid hrest
      have HLENS := Lib.hid hlens
      have HTW := Lib.hid htw
      have HRL := Lib.hid hrl
      have hkn := wayAt_lt (f := down) hlt
      have HKE := Lib.hid (HKEY.out _ hkn)
      have HAT := Lib.hid (fun w9 : World => at_any w9 down i n hdn hlt (by omega))
      have hin2 : (i : Int) < (n : Int) := by omega
      have hwi1 : IntKind.i64.wrap ((n : Int) - 1) = (n : Int) - 1 := IntWalk.i64_in _ (by omega)
      have hwi2 : IntKind.i64.wrap ((n : Int) - 1 - (i : Int)) = (n : Int) - 1 - (i : Int) := IntWalk.i64_in _ (by omega)
      have hfe : ((n - (i + 1) : Nat) : Int) = (n : Int) - 1 - (i : Int) := by omega
      clear hC2 hk1 hk2 hcut hrest hlens htw hrl
      go_upto_region 8 with (fail)
      generalize wayAt down i n = k at *
      have HDG0 : Hid (∀ w9 : World, Calls Tryz.prog 11 #[.int .i64 (100 + (k : Int))] w9 fun e w' => e = .returned (.string ⟨(digL 4 (100 + k)).toArray⟩) ∧ Below w9.heap.size w9 w') := Lib.hid (fun w9 => by
        have := digits_any w9 (100 + k) (by omega)
        rwa [show ((100 + k : Nat) : Int) = 100 + (k : Int) by omega] at this)
      generalize (⟨(digL 4 (100 + k)).toArray⟩ : ByteArray) = D at *
      have HDG := HDG0
      have hDs : D.size ≤ 140737488355328 := by
        have h1 := K.hsz (key k)
        rw [HKE.out, ByteArray.size_append] at h1
        omega
      have hsl : ¬ 9223372036854775807 < 1 + D.size := by omega
      have HIW := Lib.hid (fun (w9 : World) (hb : Below wr.heap.size wr w9) => by
        have h := cut_any K 0 w9 _ _ r P F (key k) t2 (HI.out.below hb) HLENS.out hp500 hf500 (by
          have h2 := HK2.out
          unfold okT at h2
          simp only [Bool.and_eq_true, decide_eq_true_eq] at h2
          exact h2.2.1) HADD.out
        rw [HKE.out] at h
        exact h)
      clear HDG0
      have hw1 : IntKind.i64.wrap (100 + (k : Int)) = 100 + (k : Int) := IntWalk.i64_in _ (by omega)
      obtain ⟨C0, hC0⟩ : ∃ C0 : World → Prop, ∀ w9, C0 w9 ↔ (w9.cell? ⟨tb, 0, none⟩ = some (.slice np1 P.length nc1) ∧ w9.cell? ⟨tb, 1, none⟩ = some (.int .i64 r) ∧ w9.cell? ⟨tb, 2, none⟩ = some (.slice fp F.length fc)) := ⟨_, fun _ => Iff.rfl⟩
      have hCall : ∀ m w9, RgPost K wr t2 D (.int .i64 k) (.int .i64 0) m w9 → C0 w9 := fun m w9 hp => (hC0 _).2 ⟨(hp.1.cell (p := ⟨tb, 0, none⟩) xl).trans x0, (hp.1.cell (p := ⟨tb, 1, none⟩) xl).trans x1, (hp.1.cell (p := ⟨tb, 2, none⟩) xl).trans x2⟩
      refine wp_region_par [6, 8, 12, 13, 4, 14] [#[.tmp 40], #[.tmp 35, .tmp 42], #[], #[.tmp 11, .tmp 44], #[.tmp 36, .tmp 37, .tmp 38], #[.tmp 45]] (fun t j => (t == 0 && j == 4) || (t == 1 && j == 0) || (t == 3 && decide (j < 3)) || (t == 5 && decide (j < 5))) (by kernel_rfl) (by kernel_rfl) (fun m => by kernel_rfl) (fun w9 => ∃ p : Among C0, w9 = p.w) (fun t m => match t with
        | 0 => #[.int .i64 (100 + (k : Int))]
        | 1 => #[.agg #[.slice np1 P.length nc1, .int .i64 r, .slice fp F.length fc], .string ((⟨#[107]⟩ : ByteArray) ++ D)]
        | 2 => #[]
        | 3 => #[(m 2).getD undef, fstV ((m 1).getD undef)]
        | 4 => #[.int .i64 down, .int .i64 i, .int .i64 n]
        | _ => #[sndV ((m 1).getD undef)]) (RgPost K wr t2 D (.int .i64 k) (.int .i64 0)) (rg_start wr) (fun m w9 hp _ => ⟨⟨w9, hCall m w9 hp⟩, rfl⟩) (fun m w9 hp => ?hfull) (fun t m m' ht hpre hext => ?hdep) ?hstep ?hwalk
      case hfull =>
        obtain ⟨m', w', h1, h2, h3⟩ := rg_full hp (fun w9 hb => by
          obtain ⟨e, w', fr, ho, -⟩ := HIW.out w9 hb []
          exact ⟨e, w', ho⟩)
        exact ⟨m', w', h1, h2, h3⟩
      case hdep =>
        match t, ht with
        | 0, _ => rfl
        | 1, _ => rfl
        | 2, _ => rfl
        | 3, _ =>
          obtain ⟨x, hx⟩ := Option.ne_none_iff_exists'.1 (hpre 1 (by decide) rfl)
          obtain ⟨y, hy⟩ := Option.ne_none_iff_exists'.1 (hpre 2 (by decide) rfl)
          simp only [hx, hy, hext _ _ hx, hext _ _ hy]
        | 4, _ => rfl
        | 5, _ =>
          obtain ⟨x, hx⟩ := Option.ne_none_iff_exists'.1 (hpre 1 (by decide) rfl)
          simp only [hx, hext _ _ hx]
      case hstep =>
        intro t m w9 o hp ht hmt hpre ho a next hargs hn
        match t, ht with
        | 0, _ =>
          obtain rfl := Option.some.inj ho
          have e1 : a.eval (.tmp 40) = .int .i64 (100 + (k : Int)) := by simpa using congrArg (fun (x : Array Value) => x.getD 0 undef) hargs
          unfold Oper.wp execOp
          have e2 : a.tmps[40]?.getD undef = .int .i64 (100 + (k : Int)) := by simpa [go_sem] using e1
          simp [e2, go_sem]
          refine (HDG.out w9).mono ?_
          rintro e w' ⟨rfl, hb⟩
          exact hn _ _ (rg_dig hp hmt hb)
        | 1, _ =>
          obtain rfl := Option.some.inj ho
          have e1 : a.eval (.tmp 35) = .agg #[.slice np1 P.length nc1, .int .i64 r, .slice fp F.length fc] := by simpa using congrArg (fun (x : Array Value) => x.getD 0 undef) hargs
          have e2 : a.eval (.tmp 42) = .string ((⟨#[107]⟩ : ByteArray) ++ D) := by simpa using congrArg (fun (x : Array Value) => x.getD 1 undef) hargs
          unfold Oper.wp execOp
          have e4 : a.tmps[35]?.getD undef = .agg #[.slice np1 P.length nc1, .int .i64 r, .slice fp F.length fc] := by simpa [go_sem] using e1
          have e5 : a.tmps[42]?.getD undef = .string ((⟨#[107]⟩ : ByteArray) ++ D) := by simpa [go_sem] using e2
          simp [e4, e5, go_sem]
          refine (HIW.out w9 hp.1).mono ?_
          intro e w' ho2
          obtain ⟨x, rfl, hp2⟩ := rg_call hp hmt (hpre 0 (by decide) rfl) ho2
          exact hn _ _ hp2
        | 2, _ =>
          obtain rfl := Option.some.inj ho
          unfold Oper.wp execOp
          simp [go_sem]
          exact hn _ _ (rg_new hp hmt _ _ _)
        | 3, _ =>
          obtain rfl := Option.some.inj ho
          obtain ⟨xx, hx⟩ := Option.ne_none_iff_exists'.1 (hpre 1 (by decide) rfl)
          obtain ⟨yy, hy⟩ := Option.ne_none_iff_exists'.1 (hpre 2 (by decide) rfl)
          obtain ⟨v', u', P', rfl, -, hin', -⟩ := hp.2.2.2.2.1 xx hx
          obtain ⟨g, rfl, hgw, ⟨c0, c1, c2, hbl⟩, -⟩ := hp.2.2.2.2.2.1 yy hy
          obtain ⟨vp, vc, rfl, -⟩ := hin'.1.slice
          obtain ⟨up', uc, rfl, -⟩ := hin'.2.slice
          have e1 : a.eval (.tmp 11) = .pointer (some ⟨g, 0, none⟩) := by
            have := congrArg (fun (x : Array Value) => x.getD 0 undef) hargs
            simpa [hy] using this
          have e2 : a.eval (.tmp 44) = .agg #[.slice vp P'.length vc, .int .i64 t2.root, .slice up' t2.free.length uc] := by
            have := congrArg (fun (x : Array Value) => x.getD 1 undef) hargs
            simpa [hx, T2, fstV] using this
          have s0 := hbl.cell 0
          have s1 := hbl.cell 1
          have s2 := hbl.cell 2
          have f0 := hbl.free 0
          have f1 := hbl.free 1
          have f2 := hbl.free 2
          have sl := hbl.lt
          simp only [List.getElem?_toArray, List.getElem?_cons_succ, List.getElem?_cons_zero] at s0 s1 s2
          unfold Oper.wp execOp
          have e3 : a.tmps[11]?.getD undef = .pointer (some ⟨g, 0, none⟩) := by simpa [go_sem] using e1
          have e4 : a.tmps[44]?.getD undef = .agg #[.slice vp P'.length vc, .int .i64 t2.root, .slice up' t2.free.length uc] := by simpa [go_sem] using e2
          simp [e3, e4, s0, s1, s2, f0, f1, f2, go_sem]
          exact hn undef _ (rg_store hp hmt hx hy)
        | 4, _ =>
          obtain rfl := Option.some.inj ho
          have e1 : a.eval (.tmp 36) = .int .i64 down := by simpa using congrArg (fun (x : Array Value) => x.getD 0 undef) hargs
          have e2 : a.eval (.tmp 37) = .int .i64 i := by simpa using congrArg (fun (x : Array Value) => x.getD 1 undef) hargs
          have e3 : a.eval (.tmp 38) = .int .i64 n := by simpa using congrArg (fun (x : Array Value) => x.getD 2 undef) hargs
          unfold Oper.wp execOp
          have e4 : a.tmps[36]?.getD undef = .int .i64 down := by simpa [go_sem] using e1
          have e5 : a.tmps[37]?.getD undef = .int .i64 i := by simpa [go_sem] using e2
          have e6 : a.tmps[38]?.getD undef = .int .i64 n := by simpa [go_sem] using e3
          simp [e4, e5, e6, go_sem]
          refine (HAT.out w9).mono ?_
          rintro e w' ⟨rfl, rfl⟩
          exact hn _ _ (rg_four hp)
        | 5, _ =>
          obtain rfl := Option.some.inj ho
          obtain ⟨xx, hx⟩ := Option.ne_none_iff_exists'.1 (hpre 1 (by decide) rfl)
          obtain ⟨v', u', P', rfl, -⟩ := hp.2.2.2.2.1 xx hx
          have e1 : a.eval (.tmp 45) = .int .i64 0 := by
            have := congrArg (fun (x : Array Value) => x.getD 0 undef) hargs
            simpa [hx, T2, sndV] using this
          unfold Oper.wp execOp
          have e3 : a.tmps[45]?.getD undef = .int .i64 0 := by simpa [go_sem] using e1
          simp [e3, go_sem]
          exact hn _ _ (rg_five hp)
      case hwalk =>
        intro m w9 hp hF
        obtain ⟨v0, h0⟩ := Option.ne_none_iff_exists'.1 (hF 0 (by decide))
        obtain ⟨v1, h1⟩ := Option.ne_none_iff_exists'.1 (hF 1 (by decide))
        obtain ⟨v2, h2⟩ := Option.ne_none_iff_exists'.1 (hF 2 (by decide))
        obtain ⟨v3, h3⟩ := Option.ne_none_iff_exists'.1 (hF 3 (by decide))
        obtain ⟨v4, h4⟩ := Option.ne_none_iff_exists'.1 (hF 4 (by decide))
        obtain ⟨v5, h5⟩ := Option.ne_none_iff_exists'.1 (hF 5 (by decide))
        obtain ⟨a1, -, -, a4, a5, a6, a7, a8, a9⟩ := hp
        obtain rfl := a4 v0 h0
        obtain ⟨v', u', P', rfl, hnd, hin', -⟩ := a5 v1 h1
        obtain ⟨g, rfl, hgw, -, hbl⟩ := a6 v2 h2
        obtain rfl := a9 v3 h3
        obtain rfl := a7 v4 h4
        obtain rfl := a8 v5 h5
        have hbl2 := hbl (by rw [h3]; simp) v' u' h1
        obtain ⟨vp, vc, rfl, -⟩ := hin'.1.slice
        obtain ⟨up', uc, rfl, -⟩ := hin'.2.slice
        have HBL := Lib.hid hbl2
        have HIN := Lib.hid hin'
        have HB9 := Lib.hid a1
        have HND := Lib.hid hnd
        have HGW := Lib.hid hgw
        clear a1 a4 a5 a6 a7 a8 a9 hbl hbl2 hin' hnd hgw
        simp only [opsP, dumP, posOf, Nat.reduceAdd, Nat.reduceEqDiff, if_false, if_true, Option.map_none, Option.map_some, h0, h1, h2, h3, h4, h5, Option.getD_some, T2]
        have c0 : ∀ p : Among C0, p.w.cell? ⟨tb, 0, none⟩ = some (.slice np1 P.length nc1) := fun p => ((hC0 _).1 p.ok).1
        have c1 : ∀ p : Among C0, p.w.cell? ⟨tb, 1, none⟩ = some (.int .i64 r) := fun p => ((hC0 _).1 p.ok).2.1
        have c2 : ∀ p : Among C0, p.w.cell? ⟨tb, 2, none⟩ = some (.slice fp F.length fc) := fun p => ((hC0 _).1 p.ok).2.2
        have hinh : Nonempty (Among C0) := ⟨⟨wr, (hC0 _).2 ⟨x0, x1, x2⟩⟩⟩
        (repeat (first | go_big_quiet_skip | quiet_step (fail)))
        refine ⟨fun j hj => ?_, ?_⟩
        · match j, hj with
          | 0, _ => simp [go_sem]
          | 1, _ => simp [go_sem]
          | 2, _ => simp [go_sem]
          | 3, _ => simp [go_sem, h1, h2, T2, fstV]
          | 4, _ => simp [go_sem]
          | 5, _ => simp [go_sem, h1, T2, sndV]
        · clear c0 c1 c2 hinh hCall hC0 h0 h1 h2 h3 h4 h5 hF HDG HIW hsl hw1
          have hok' : okT (Tr.mk (ndsOf P') t2.root t2.free) = true := by rw [HND.out]; exact HK2.out
          have HSM := Lib.hid (okT_parts hok').2.2.2
          clear hok'
          have y0 := HBL.out.cell 0
          have y1 := HBL.out.cell 1
          have y2 := HBL.out.cell 2
          have yl : Lt g w9.heap.size := HBL.out.lt
          have HX9 := Lib.hid (HX.out.below HB9.out)
          have z0 := HX9.out.cell 0
          have z1 := HX9.out.cell 1
          have z2 := HX9.out.cell 2
          have q0 := HX9.out.free 0
          have q1 := HX9.out.free 1
          have q2 := HX9.out.free 2
          have zl : Lt tb w9.heap.size := HX9.out.lt
          simp only [List.getElem?_toArray, List.getElem?_cons_succ, List.getElem?_cons_zero] at y0 y1 y2 z0 z1 z2
          go_wp2_with fail
          refine (tree_any K wr.heap.size w9 _ _ t2.root P' t2.free rows d HIN.out HSM.out (by rw [HND.out]; exact HTW.out) (by rw [HRL.out]; omega)).mono ?_
          rintro e w' ⟨rp, rc, rfl, hb⟩
          rw [HRL.out]
          obtain ⟨n1, es1, rfl⟩ := below_more hb
          clear hb
          go_wp2_with (first | (go_at_call 12; refine (num6_any _ _).mono ?_; rintro e w' ⟨rfl, rfl⟩))
          go_roundg (n + 1 - i - 1)
          case measure => omega
          case rel =>
            have hgt : tb < wr.heap.size := xl
            have hst : ∀ (W : World) (j : Nat) (x : Value), TreeIn K wr.heap.size W (.slice vp P'.length vc) (.slice up' t2.free.length uc) P' t2.free → TreeIn K wr.heap.size (W.setCell ⟨tb, j, none⟩ x) (.slice vp P'.length vc) (.slice up' t2.free.length uc) P' t2.free := fun W j x h => h.stays (Stays.set (a := ⟨tb, j, none⟩) hgt x)
            refine ⟨i + 1, by omega, by omega, by go_num, vp, up', vc, uc, t2.root, P', t2.free, ?_, Lib.hid ?_, Lib.hid ?_, Lib.hid ?_⟩
            · have e : Tr.mk (ndsOf P') t2.root t2.free = t2 := by rw [HND.out]
              rw [e]
              exact HREST
            · exact (TreeIn.below (hst _ _ _ (hst _ _ _ (hst _ _ _ HIN.out))) (by (repeat (first | exact Below.refl _ _ | assumption | refine nw_more ?_ _ _ | refine nw_alloc ?_ _ | refine nw_drew ?_ | refine nw_drewN ?_ _ | refine nw_set ?_ (by first | (simp; done) | (simp; omega) | omega) _)))).mono (Nat.zero_le _)
            · exact (((HX9.out.set 0 _).set 1 _).set 2 _).mre _ _
            · have hbel := nw_trans HB.out HB9.out
              exact nw_more (nw_set (nw_set (nw_set hbel (by show w.heap.size ≤ tb; omega) _) (by show w.heap.size ≤ tb; omega) _) (by show w.heap.size ≤ tb; omega) _) _ _
    · have hin : ¬ (i : Int) < (n : Int) := by omega
      go_wp2_with (first | (go_at_call 18; refine (wakes6_any _).mono ?_; (rintro e w' ⟨rfl, hb⟩; obtain ⟨n, es, rfl⟩ := below_more hb; clear hb)))
      go_ret
      exact ⟨rfl, by have hbel := HB.out; (repeat (first | exact Below.refl _ _ | assumption | refine nw_more ?_ _ _ | refine nw_alloc ?_ _ | refine nw_drew ?_ | refine nw_drewN ?_ _ | refine nw_set ?_ (by first | (simp; done) | (simp; omega) | omega) _))⟩
end Go.Proofs.YtaophiknldkfdaaGreatDoor
