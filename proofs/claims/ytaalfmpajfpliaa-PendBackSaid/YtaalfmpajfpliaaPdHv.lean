/- The weight of the argument: what it says of the lists' lengths. No condition. -/
import Derived.Test.YtaalfmpajfpliaaPdG
namespace Go.Proofs.Ytaalfmpajfpliaa
open Go.RowKit

/-- The weight, from m on. -/
def wwGo : Int → List Wr → Int
  | m, [] => m
  | m, x :: r => if m < 1048576 then wwGo (m + ((x.k.size : Int) + (x.s.size : Int)) / 8) r else m
def wwB (l : List Wr) : Int := wwGo l.length l
theorem wwGo_low : ∀ (l : List Wr) (m : Int), m ≤ wwGo m l
  | [], m => Int.le_refl m
  | x :: r, m => by
    unfold wwGo
    split
    · exact Int.le_trans (by omega) (wwGo_low r _)
    · exact Int.le_refl m
theorem wwGo_high : ∀ (l : List Wr) (m : Int), (∀ x ∈ l, x.k.size ≤ 140737488355328 ∧ x.s.size ≤ 140737488355328) → m ≤ 140737488355328 → wwGo m l ≤ 140737488355328
  | [], m, _, h => h
  | x :: r, m, hz, h => by
    unfold wwGo
    split
    · have := hz x List.mem_cons_self
      exact wwGo_high r _ (fun y hy => hz y (List.mem_cons_of_mem _ hy)) (by omega)
    · exact h

theorem Calls.more_same_int' {P : Program} {f : FuncId} {args : Array Value} {w : World} {n : Nat} {es : Array Obj} {b : Int} (c : Int) (hc : b = c)
    (h : Calls P f args (more w n es) fun e w' => e = .returned (.int .i64 b) ∧ Below (more w n es).heap.size (more w n es) w') : Calls P f args (more w n es) fun e w'' => e = .returned (.int .i64 c) ∧ ∃ p : MoreBy, w'' = more w p.n p.es := by
  subst hc; exact Calls.more_of h
set_option maxHeartbeats 2000000 in
theorem writesWeight_any (w : World) (v : Value) (l : List Wr) (h : WsAt w v l) :
    Calls Try.prog 14 #[v] w fun e w' => e = .returned (.int .i64 (wwB l)) ∧ Below w.heap.size w w' := by
  obtain ⟨p, cap, rfl, hl, hcap, ht⟩ := h.at
  have H := Lib.hid ht
  generalize hR : wwB l = R
  have HR0 : Hid (wwGo l.length l = R) := Lib.hid hR
  clear h ht hR
  go_enter Try.func14, Try.ntmps14
  go_wp2
  go_loopg [3, 4] (l.length + 1) (fun g s3 s4 wr => (∃ n es, wr = more w n es) ∧ ∃ (m : Int) (k : Nat), k ≤ l.length ∧ g + k = l.length + 1 ∧ 0 ≤ m ∧ s3 = .int .i64 m ∧ s4 = .int .i64 k ∧ Hid (wwGo m (l.drop k) = R))
  case atStart => exact ⟨below_more (Below.refl _ _), l.length, 0, Nat.zero_le _, rfl, by omega, rfl, rfl, HR0⟩
  case round =>
    obtain ⟨⟨n, es, rfl⟩, m, k, hk, hg, hm0, rfl, rfl, HT⟩ := hrel
    obtain rfl : gk = l.length + 1 - k := by omega
    clear hg
    by_cases hlt : k < l.length
    · have hkl : (k : Int) < (l.length : Int) := by omega
      obtain ⟨b, off, x, rfl, hb, hc0, hc1, hc2, hc3, hd, hxk, hsk, hsz⟩ := H.out k hlt
      obtain ⟨t, kk, s, g⟩ := x
      dsimp only at hc0 hc1 hc2 hc3 hsk hsz
      by_cases hm : m < 1048576
      · have hdm : decide (m < 1048576) = true := decide_eq_true hm
        have HE : Hid (wwGo (m + ((kk.size : Int) + (s.size : Int)) / 8) (l.drop (k + 1)) = R) := Lib.hid (by have := HT.out; rw [hd, wwGo, if_pos hm] at this; exact this)
        have w1 : IntKind.i64.wrap ((kk.size : Int) + (s.size : Int)) = (kk.size : Int) + (s.size : Int) := IntWalk.i64_in _ (by omega)
        have w2 : IntKind.i64.wrap (((kk.size : Int) + (s.size : Int)) / 8) = ((kk.size : Int) + (s.size : Int)) / 8 := IntWalk.i64_in _ (by omega)
        have w3 : IntKind.i64.wrap (m + ((kk.size : Int) + (s.size : Int)) / 8) = m + ((kk.size : Int) + (s.size : Int)) / 8 := IntWalk.i64_in _ (by omega)
        have WT : Hid (IntKind.i64.wrap (m + IntKind.i64.wrap (((kk.size : Int) + (s.size : Int)).tdiv 8)) = m + ((kk.size : Int) + (s.size : Int)) / 8) := Lib.hid (by rw [Int.tdiv_eq_ediv_of_nonneg (by omega), w2, w3])
        clear hd HT hxk H w2 w3
        go_wp2_with fail
        (refine wp_region_quiet_more (by kernel_rfl) (by kernel_rfl) ?_; (repeat (first | go_big_quiet_skip | quiet_step ((first | fail)))); refine wpQuiet_nil ?_; intro _ hw'; obtain ⟨⟨nq, esq⟩, hw''⟩ := hw'; subst hw''; dsimp only)
        go_wp2_with fail
        rw [WT.out]
        go_roundg (l.length + 1 - k - 1)
        case measure => omega
        case rel => exact ⟨below_more (by (repeat (first | exact Below.refl _ _ | assumption | refine nw_more ?_ _ _ | refine nw_alloc ?_ _ | refine nw_drew ?_ | refine nw_drewN ?_ _ | refine nw_set ?_ (by first | (simp; done) | (simp; omega) | omega) _))), _, k + 1, by omega, by omega, by omega, rfl, by go_num, HE⟩
      · have HE : Hid (R = m) := Lib.hid (by have := HT.out; rw [hd, wwGo, if_neg hm] at this; exact this.symm)
        clear hd HT hxk H
        go_wp2
        go_ret
        exact ⟨by rw [HE.out]; rfl, by (repeat (first | exact Below.refl _ _ | assumption | refine nw_more ?_ _ _ | refine nw_alloc ?_ _ | refine nw_drew ?_ | refine nw_drewN ?_ _ | refine nw_set ?_ (by first | (simp; done) | (simp; omega) | omega) _))⟩
    · have e : k = l.length := by omega
      have hkl : ¬ (k : Int) < (l.length : Int) := by omega
      have HE : Hid (R = m) := Lib.hid (by have := HT.out; rw [e, List.drop_length] at this; exact this.symm)
      clear e HT H
      go_wp2
      go_ret
      exact ⟨by rw [HE.out]; rfl, by (repeat (first | exact Below.refl _ _ | assumption | refine nw_more ?_ _ _ | refine nw_alloc ?_ _ | refine nw_drew ?_ | refine nw_drewN ?_ _ | refine nw_set ?_ (by first | (simp; done) | (simp; omega) | omega) _))⟩

def HvOut (nn : Nat) (w : World) (e : Ending) (w' : World) : Prop := ∃ b : Bool, e = .returned (.bool b) ∧ (b = false → nn ≤ 500) ∧ Below w.heap.size w w'
set_option maxHeartbeats 4000000 in
theorem heavy10_any (w : World) (u av : Value) (pn : Option Addr) (nn cn N : Nat) (l : List Wr) (f : Nat → Ac) (hnn : nn ≤ 140737488355328) (hw : WsAt w u l) (ha : AcsAt w av N f) :
    Calls Try.prog 4 #[.agg #[u, .slice pn nn cn, av]] w fun e w' => HvOut nn w e w' := by
  obtain ⟨pl, lc, rfl, hcap⟩ := hw.slice
  have HW := Lib.hid hw
  obtain ⟨pa, ac, rfl, hN, hat⟩ := ha.at
  have HA := Lib.hid hat
  have hl := hw.1
  have hlo := Int.le_trans (Int.natCast_nonneg _) (wwGo_low l l.length)
  have hhi := wwGo_high l l.length hw.2.1 (by omega)
  have hww : wwGo l.length l = wwB l := rfl
  rw [hww] at hlo hhi
  clear hw ha hat hww
  generalize hM : wwB l = M at *
  have HM := Lib.hid hM
  clear hM
  have w1 : IntKind.i64.wrap (M + (nn : Int)) = M + (nn : Int) := IntWalk.i64_in _ (by omega)
  have w2 : IntKind.i64.wrap (M + (nn : Int) + (N : Int)) = M + (nn : Int) + (N : Int) := IntWalk.i64_in _ (by omega)
  go_enter Try.func4, Try.ntmps4
  go_wp2_with fail
  (refine wp_region_quiet_more (by kernel_rfl) (by kernel_rfl) ?_; (repeat (first | go_big_quiet_skip | quiet_step ((first | (go_at_call 14; exact Calls.more_same_int' M HM.out (writesWeight_any _ _ l (HW.out.below (by (repeat (first | exact Below.refl _ _ | assumption | refine nw_more ?_ _ _ | refine nw_alloc ?_ _ | refine nw_drew ?_ | refine nw_drewN ?_ _ | refine nw_set ?_ (by first | (simp; done) | (simp; omega) | omega) _)))))))))); refine wpQuiet_nil ?_; intro _ hw'; obtain ⟨⟨nq, esq⟩, hw''⟩ := hw'; subst hw''; dsimp only)
  go_wp2_with fail
  have hst : (nn : Int) ≤ M + (nn : Int) + (N : Int) := by omega
  have hst0 : 0 ≤ M + (nn : Int) + (N : Int) := by omega
  clear HW HM w1 w2
  generalize M + (nn : Int) + (N : Int) = M1 at *
  go_loopg [3, 4] (N + 1) (fun g s3 s4 wr => (∃ n es, wr = more (w.alloc (Obj.cells #[.slice pl l.length lc, .slice pn nn cn, .slice pa N ac] 28)) n es) ∧ ∃ (m : Int) (k : Nat), k ≤ N ∧ g + k = N + 1 ∧ 0 ≤ m ∧ (nn : Int) ≤ m ∧ s3 = .int .i64 m ∧ s4 = .int .i64 k)
  case atStart => exact ⟨below_more (by (repeat (first | exact Below.refl _ _ | assumption | refine nw_more ?_ _ _ | refine nw_alloc ?_ _ | refine nw_drew ?_ | refine nw_drewN ?_ _ | refine nw_set ?_ (by first | (simp; done) | (simp; omega) | omega) _))), M1, 0, Nat.zero_le _, rfl, hst0, hst, rfl, rfl⟩
  case round =>
    clear hst hst0 hlo hhi
    obtain ⟨⟨n, es, rfl⟩, m, k, hk, hg, hm0, hmn, rfl, rfl⟩ := hrel
    obtain rfl : gk = N + 1 - k := by omega
    clear hg
    by_cases hlt : k < N
    · have hkl : (k : Int) < (N : Int) := by omega
      obtain ⟨b, off, an, at1, kk, s, g, rfl, hb, hc1, hc2, hc3, hc4, hc5, hsk, hsz⟩ := HA.out k hlt
      by_cases hm : m < 1048576
      · have hdm : decide (m < 1048576) = true := decide_eq_true hm
        have w1 : IntKind.i64.wrap ((kk.size : Int) + (s.size : Int)) = (kk.size : Int) + (s.size : Int) := IntWalk.i64_in _ (by omega)
        have w2 : IntKind.i64.wrap (((kk.size : Int) + (s.size : Int)) / 8) = ((kk.size : Int) + (s.size : Int)) / 8 := IntWalk.i64_in _ (by omega)
        have w3 : IntKind.i64.wrap (m + ((kk.size : Int) + (s.size : Int)) / 8) = m + ((kk.size : Int) + (s.size : Int)) / 8 := IntWalk.i64_in _ (by omega)
        have WT : Hid (IntKind.i64.wrap (m + IntKind.i64.wrap (((kk.size : Int) + (s.size : Int)).tdiv 8)) = m + ((kk.size : Int) + (s.size : Int)) / 8) := Lib.hid (by rw [Int.tdiv_eq_ediv_of_nonneg (by omega), w2, w3])
        clear HA w2 w3
        go_wp2_with fail
        (refine wp_region_quiet_more (by kernel_rfl) (by kernel_rfl) ?_; (repeat (first | go_big_quiet_skip | quiet_step ((first | fail)))); refine wpQuiet_nil ?_; intro _ hw'; obtain ⟨⟨nq, esq⟩, hw''⟩ := hw'; subst hw''; dsimp only)
        go_wp2_with fail
        rw [WT.out]
        go_roundg (N + 1 - k - 1)
        case measure => omega
        case rel => exact ⟨below_more (by (repeat (first | exact Below.refl _ _ | assumption | refine nw_more ?_ _ _ | refine nw_alloc ?_ _ | refine nw_drew ?_ | refine nw_drewN ?_ _ | refine nw_set ?_ (by first | (simp; done) | (simp; omega) | omega) _))), _, k + 1, by omega, by omega, by omega, by omega, rfl, by go_num⟩
      · clear HA
        go_wp2
        go_ret
        exact ⟨_, rfl, fun h => by have := of_decide_eq_false h; omega, by (repeat (first | exact Below.refl _ _ | assumption | refine nw_more ?_ _ _ | refine nw_alloc ?_ _ | refine nw_drew ?_ | refine nw_drewN ?_ _ | refine nw_set ?_ (by first | (simp; done) | (simp; omega) | omega) _))⟩
    · have hkl : ¬ (k : Int) < (N : Int) := by omega
      clear HA
      go_wp2
      go_ret
      exact ⟨_, rfl, fun h => by have := of_decide_eq_false h; omega, by (repeat (first | exact Below.refl _ _ | assumption | refine nw_more ?_ _ _ | refine nw_alloc ?_ _ | refine nw_drew ?_ | refine nw_drewN ?_ _ | refine nw_set ?_ (by first | (simp; done) | (simp; omega) | omega) _))⟩
end Go.Proofs.Ytaalfmpajfpliaa
