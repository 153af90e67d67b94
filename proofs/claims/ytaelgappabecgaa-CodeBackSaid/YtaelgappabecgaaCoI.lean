/- Contracts: Take, Bytes. No condition. -/
import Derived.Test.YtaelgappabecgaaCoE
import Derived.Test.YtaelgappabecgaaCoG
namespace Go.Proofs.Ytaelgappabecgaa
open Go.RowKit

theorem wrP_small (L : List UInt8) : (wrP L).1.k.size ≤ 255 ∧ (wrP L).1.s.size ≤ 255 := by
  unfold wrP
  exact ⟨(txtP_len _).2, (txtP_len _).2⟩
theorem wrsP_small : ∀ (n : Nat) (L : List UInt8), (wrsP n L).length = n ∧ ∀ x ∈ wrsP n L, x.k.size ≤ 140737488355328 ∧ x.s.size ≤ 140737488355328
  | 0, _ => ⟨rfl, fun x hx => by cases hx⟩
  | n + 1, L => by
    obtain ⟨h1, h2⟩ := wrsP_small n (wrP L).2
    refine ⟨by simp [wrsP, h1], fun x hx => ?_⟩
    rcases List.mem_cons.1 hx with rfl | hx
    · have := wrP_small L; omega
    · exact h2 x hx
theorem recP_small (L : List UInt8) : (recP L).2.length ≤ 64 ∧ ∀ x ∈ (recP L).2, x.k.size ≤ 140737488355328 ∧ x.s.size ≤ 140737488355328 := by
  obtain ⟨h1, h2⟩ := wrsP_small (min (decN ((L.drop 4).take 4)) 64) ((L.drop 4).drop 4)
  exact ⟨by show (wrsP _ _).length ≤ 64; omega, h2⟩
/-- A record beside an error. -/
def rTwo (c : Int) (u : Value) (e : Int) : Value := .tuple #[.agg #[.int .i64 c, u], .int .i64 e]
theorem toB_inj {a b : List UInt8} (h : toB a = toB b) : a = b := by
  have := congrArg (fun s : ByteArray => s.data.toList) h
  simpa [toB] using this

set_option maxRecDepth 100000 in
set_option maxHeartbeats 8000000 in
theorem take_any (w : World) (L : List UInt8) (hL : L.length ≤ 140737488355328) :
    Calls Try.prog 14 #[.string (toB L)] w fun e w' => (match takeP L with
      | none => e = .returned (rTwo 0 (.slice none 0 0) 10)
      | some r => ∃ u, e = .returned (rTwo r.1 u 0) ∧ OwnW w.heap.size w' u r.2) ∧ Below w.heap.size w w' := by
  obtain ⟨hrl, hrs⟩ := recP_small L
  have HREC := Lib.hid (fun w' : World => recordIn_any w' L hL)
  unfold takeP
  generalize hr : recP L = r at *
  obtain ⟨c, l⟩ := r
  dsimp only at *
  obtain ⟨ok, hok⟩ : ∃ ok, rOk c l = ok := ⟨_, rfl⟩
  rw [hok]
  have HOK := Lib.hid hok
  clear hok
  generalize hP : (if ok && decide (rBytes c l = L) then some (c, l) else none) = P
  have HPP := Lib.hid hP
  clear hP
  go_enter Try.func14, Try.ntmps14
  go_wp2_with fail
  refine (HREC.out _).mono ?_
  rintro e w1 ⟨u, rfl, hu, hb⟩
  have hbe : Below w.heap.size w w1 := nw_trans (by (repeat (first | exact Below.refl _ _ | assumption | refine nw_more ?_ _ _ | refine nw_alloc ?_ _ | refine nw_drew ?_ | refine nw_drewN ?_ _ | refine nw_set ?_ (by first | (simp; done) | (simp; omega) | omega) _))) hb
  have hres : Blc w1 w.heap.size 34 #[.int .i64 0, .slice none 0 0] := Blc.below (by (repeat (first | exact Blc.newAt _ _ _ (by simp; done) | refine Blc.alloc ?_ _ | refine Blc.mre ?_ _ _))) hb
  have hws := hu.at (by omega) hrs
  have how := World.ownsRow.mono (base' := w.heap.size) hu (by simp)
  obtain ⟨up, uc, rfl⟩ := hu.slice
  have HWS := Lib.hid hws
  have HOW := Lib.hid how
  have HBE := Lib.hid hbe
  have HRES := Lib.hid hres
  have hzw : w.heap.size ≤ w1.heap.size := hbe.size
  clear hu hb hbe hws how hrs HREC hr hres
  go_wp2_with fail
  refine (mayBe_any _ c _ l (HWS.out.below (by (repeat (first | exact Below.refl _ _ | assumption | refine nw_more ?_ _ _ | refine nw_alloc ?_ _ | refine nw_drew ?_ | refine nw_drewN ?_ _ | refine nw_set ?_ (by first | (simp; done) | (simp; omega) | omega) _))))).mono ?_
  rw [HOK.out]
  (rintro e w' ⟨rfl, hb⟩; obtain ⟨n, es, rfl⟩ := below_more hb; clear hb)
  cases ok
  case false =>
    rw [Bool.false_and, if_neg (by decide)] at HPP
    obtain rfl := HPP.out
    have hres := HRES.out
    have y0 := hres.cell 0
    have y1 := hres.cell 1
    have yf0 := hres.free 0
    have yf1 := hres.free 1
    have yl : Lt w.heap.size w1.heap.size := hres.lt
    have hb2 := (hres.set 0 (.int .i64 0)).set 1 (.slice none 0 0)
    have q0 := hb2.cell 0
    have q1 := hb2.cell 1
    have s0 := (hres.set 0 (.int .i64 0)).cell 0
    simp at y0 y1 q0 q1 s0
    clear hres hb2 HWS HOW HRES
    go_wp2
    refine bodyPost_ret (v := rTwo 0 (.slice none 0 0) 10) (by simp [rTwo, results, Try.results14, go_sem, q0, q1, s0, yl]) rfl ⟨rfl, ?_⟩
    have hb1 := HBE.out
    (repeat (first | exact Below.refl _ _ | assumption | refine nw_more ?_ _ _ | refine nw_alloc ?_ _ | refine nw_drew ?_ | refine nw_drewN ?_ _ | refine nw_set ?_ (by first | (simp; done) | (simp; omega) | omega) _))
  case true =>
    have hbl := rBytes_len HOK.out
    go_wp2_with fail
    refine (bytesOf_any _ c _ l (HWS.out.below (by (repeat (first | exact Below.refl _ _ | assumption | refine nw_more ?_ _ _ | refine nw_alloc ?_ _ | refine nw_drew ?_ | refine nw_drewN ?_ _ | refine nw_set ?_ (by first | (simp; done) | (simp; omega) | omega) _)))) HOK.out).mono ?_
    generalize hLL : rBytes c l = LL at *
    rintro e w' ⟨u2, rfl, h2, hb2⟩
    obtain ⟨n2, es2, rfl⟩ := below_more hb2
    obtain ⟨g, gc, rfl, hgc⟩ : ∃ g gc, u2 = .slice (some ⟨g, 0, none⟩) LL.length gc ∧ ∀ j (hj : j < LL.length), (more (more (w1.alloc (Obj.cells #[.int .i64 c, .slice up l.length uc] 34)) n es) n2 es2).cell? ⟨g, 0 + j, none⟩ = some (.int .u8 (LL[j].toNat : Int)) := by
      rcases h2.form with ⟨e0, -⟩ | ⟨g, gc, e, -, -, -, hc⟩
      · rw [e0] at hbl; simp at hbl
      · exact ⟨g, gc, e, fun j hj => by rw [Nat.zero_add]; exact hc j hj⟩
    have hcv := conv_bs _ g 0 gc _ hgc
    have hres := HRES.out
    have y0 := hres.cell 0
    have y1 := hres.cell 1
    have yf0 := hres.free 0
    have yf1 := hres.free 1
    have yl : Lt w.heap.size w1.heap.size := hres.lt
    clear hb2 h2 hgc
    by_cases he : LL = L
    case neg =>
      rw [decide_eq_false he, Bool.and_false, if_neg (by decide)] at HPP
      obtain rfl := HPP.out
      have hne2 : ((toB LL).toList == (toB L).toList) = false := by
        rw [Lib.toList_data, Lib.toList_data]
        exact beq_eq_false_iff_ne.2 he
      have hb2 := (hres.set 0 (.int .i64 0)).set 1 (.slice none 0 0)
      have q0 := hb2.cell 0
      have q1 := hb2.cell 1
      have s0 := (hres.set 0 (.int .i64 0)).cell 0
      simp at y0 y1 q0 q1 s0
      clear hres hb2 HWS HOW HRES
      go_wp2
      refine bodyPost_ret (v := rTwo 0 (.slice none 0 0) 10) (by simp [rTwo, results, Try.results14, go_sem, q0, q1, s0, yl]) rfl ⟨rfl, ?_⟩
      have hb1 := HBE.out
      (repeat (first | exact Below.refl _ _ | assumption | refine nw_more ?_ _ _ | refine nw_alloc ?_ _ | refine nw_drew ?_ | refine nw_drewN ?_ _ | refine nw_set ?_ (by first | (simp; done) | (simp; omega) | omega) _))
    case pos =>
      rw [decide_eq_true he, Bool.and_self, if_pos rfl] at HPP
      obtain rfl := HPP.out
      subst he
      have hb2 := (hres.set 0 (.int .i64 c)).set 1 (.slice up l.length uc)
      have q0 := hb2.cell 0
      have q1 := hb2.cell 1
      have s0 := (hres.set 0 (.int .i64 c)).cell 0
      have hn := not_own HOW.out hres (by decide)
      have how2 : OwnW w.heap.size (more (more (((w1.setCell ⟨w.heap.size, 0, none⟩ (.int .i64 c)).setCell ⟨w.heap.size, 1, none⟩ (.slice up l.length uc)).alloc (Obj.cells #[.int .i64 c, .slice up l.length uc] 34)) n es) n2 es2) (.slice up l.length uc) l :=
        own_more (own_more (World.ownsRow.alloc (ownsRow_setCell_other (a := ⟨w.heap.size, 1, none⟩) (ownsRow_setCell_other (a := ⟨w.heap.size, 0, none⟩) HOW.out hn _) hn _) _) _ _) _ _
      have HO2 := Lib.hid how2
      simp at y0 y1 q0 q1 s0
      clear hres hb2 HWS HOW HRES how2 hn
      go_wp2
      refine bodyPost_ret (v := rTwo c (.slice up l.length uc) 0) (by simp [rTwo, results, Try.results14, go_sem, q0, q1, s0, yl]) rfl ⟨⟨_, rfl, ?_⟩, ?_⟩
      · exact HO2.out
      · have hb1 := HBE.out
        (repeat (first | exact Below.refl _ _ | assumption | refine nw_more ?_ _ _ | refine nw_alloc ?_ _ | refine nw_drew ?_ | refine nw_drewN ?_ _ | refine nw_set ?_ (by first | (simp; done) | (simp; omega) | omega) _))
end Go.Proofs.Ytaelgappabecgaa
