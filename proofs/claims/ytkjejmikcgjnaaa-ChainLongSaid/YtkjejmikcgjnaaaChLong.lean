/- ChainLong returns true. No condition. -/
import Derived.Test.YtkjejmikcgjnaaaChH
import Derived.Laws.BytesArg
namespace Go.Proofs.Ytkjejmikcgjnaaa
open Go.RowKit

/-- Versions of commits 1, 4, 7 .., the newest first. -/
def Lv : Nat → List Vr → Prop
  | 0, l => ∃ s, l = [⟨1, s, false⟩] ∧ s.size ≤ 20
  | i + 1, l => ∃ s r, l = ⟨1 + 3 * ((i : Int) + 1), s, false⟩ :: r ∧ s.size ≤ 20 ∧ Lv i r
theorem lv_len {i : Nat} {l : List Vr} (h : Lv i l) : l.length = i + 1 := by
  induction i generalizing l with
  | zero => obtain ⟨s, rfl, -⟩ := h; rfl
  | succ i ih => obtain ⟨s, r, rfl, -, h⟩ := h; simp [ih h]
theorem lv_head {i : Nat} {l : List Vr} (h : Lv i l) : ∃ s r, l = ⟨1 + 3 * (i : Int), s, false⟩ :: r ∧ s.size ≤ 20 := by
  cases i with
  | zero => obtain ⟨s, rfl, hs⟩ := h; exact ⟨s, [], rfl, hs⟩
  | succ i => obtain ⟨s, r, rfl, hs, h⟩ := h; exact ⟨s, r, by simp, hs⟩
theorem v_ok {c : Int} {s : ByteArray} (hc : 1 ≤ c) (hs : s.size ≤ 20) : vOk ⟨c, s, false⟩ = true := by simp [vOk, valB, hc, hs]
theorem lv_ok {i : Nat} {l : List Vr} (h : Lv i l) (a : Int) (ha : 1 + 3 * (i : Int) < a) : lOk a l = true := by
  induction i generalizing l a with
  | zero => obtain ⟨s, rfl, hs⟩ := h; simp [lOk, v_ok (Int.le_refl 1) hs]; omega
  | succ i ih =>
    obtain ⟨s, r, rfl, hs, h⟩ := h
    simp only [lOk, Bool.and_eq_true, decide_eq_true_eq]
    exact ⟨by push_cast at ha; omega, v_ok (by omega) hs, ih h _ (by omega)⟩
theorem lv_ch {i : Nat} {l : List Vr} (h : Lv i l) (hi : i ≤ 1000) : chOk { data := #[107] } l = true :=
  chOk_of (by decide) (by rw [lv_len h]; omega) (lv_ok h _ (by omega))
/-- With the next one it may be. -/
theorem lv_next {i : Nat} {l : List Vr} {c : Int} {s : ByteArray} (h : Lv i l) (hc : c = 1 + 3 * ((i : Int) + 1)) (hs : s.size ≤ 20) : Lv (i + 1) (⟨c, s, false⟩ :: l) := by subst hc; exact ⟨s, l, rfl, hs, h⟩
/-- With one more of the newest commit it may not. -/
theorem lv_same {i : Nat} {l : List Vr} {c : Int} {s : ByteArray} (h : Lv i l) (hc : c = 1 + 3 * (i : Int)) : chOk { data := #[107] } (⟨c, s, false⟩ :: l) = false := by
  obtain ⟨s', r, rfl, -⟩ := lv_head h
  subst hc
  simp [chOk, lOk]
theorem lv_at {i : Nat} {l : List Vr} (h : Lv i l) (j d : Nat) (hj : j ≤ i) (hd : d < 3) (N : Int) (hN : N = 1 + 3 * (j : Int) + d) : ∃ s, atV N l = some ⟨1 + 3 * (j : Int), s, false⟩ := by
  induction i generalizing l with
  | zero =>
    obtain rfl : j = 0 := by omega
    obtain ⟨s, rfl, -⟩ := h
    exact ⟨s, by unfold atV; rw [if_pos (by dsimp only; omega), if_neg (by simp)]; rfl⟩
  | succ i ih =>
    obtain ⟨s, r, rfl, -, h⟩ := h
    unfold atV
    by_cases e : j = i + 1
    · subst e
      exact ⟨s, by rw [if_pos (by dsimp only; push_cast at hN; omega), if_neg (by simp)]; push_cast; rfl⟩
    · rw [if_neg (by dsimp only; omega)]
      exact ih h (by omega)
theorem lv_left {i : Nat} {l : List Vr} (h : Lv i l) (N : Int) (hN : 1 + 3 * (i : Int) ≤ N) : ∃ x, leftV N l = [x] := by
  obtain ⟨s, r, rfl, -⟩ := lv_head h
  exact ⟨_, by unfold leftV; rw [if_pos hN, if_neg (by simp)]⟩

/-- The text of one byte. -/
def str1 (n : Int) : ByteArray := strOfNums [n]
theorem one_size (n : Int) : (str1 n).size = 1 := rfl
@[go_sem] theorem conv_one (W : World) (n : Int) : (convert 46 9 (.slice (some ⟨W.heap.size, 0, none⟩) 1 1)).run Try.prog (W.alloc (Obj.cells #[.int .u8 n] 5)) = .ok (.string (str1 n)) (W.alloc (Obj.cells #[.int .u8 n] 5)) := by
  refine run_convert_bytes_arg _ _ 5 Try.underlying46 Try.underlying5 W.heap.size 0 1 1 [n] rfl (fun i hi => ?_) _ Try.underlying9
  obtain rfl : i = 0 := by omega
  simp [go_sem]

theorem past_all (wr : World) (tb i n n2 : Nat) (v : Value) (o1 o2 o3 : Obj) (es es2 : Array Obj) (h : Lt tb wr.heap.size) : (more ((more ((wr.setCell ⟨tb, i, none⟩ v).alloc o1) n es).alloc o2) n2 es2).alloc o3 = ((more ((more (wr.alloc o1) n es).alloc o2) n2 es2).alloc o3).setCell ⟨tb, i, none⟩ v := by
  simp [go_sem, h]

set_option maxRecDepth 100000 in
set_option maxHeartbeats 4000000 in
theorem chainLong_any (w : World) (cv vv kv : Value) (pn : Option Addr) (nn cn : Nat) (hnn : nn ≤ maxLen) :
    Calls Try.prog 5 #[.agg #[cv, vv, .slice pn nn cn, kv]] w fun e w' => e = .returned (.bool true) ∧ Below w.heap.size w w' := by
  unfold maxLen at hnn
  go_enter Try.func5, Try.ntmps5
  go_wp2_with fail
  refine (new_any _ _ 1 _ false (by decide) (by decide)).mono ?_
  rw [show chOk _ _ = true by decide]
  rintro e w' ⟨u, rfl, hu, ⟨q, rfl, hq⟩, hb⟩
  have HU := Lib.hid hu
  obtain ⟨n0, es0, rfl⟩ := below_more hb
  clear hb hu
  go_wp2_with (first | (go_at_call 9; refine (num8_any _ _).mono ?_; rintro e w' ⟨rfl, rfl⟩))
  obtain ⟨r, hr, hr20⟩ : ∃ r : Nat, ((nn : Int) % 20) = r ∧ r < 20 := ⟨nn % 20, by omega, by omega⟩
  simp only [hr]
  have hqt : q < w.heap.size + 1 + es0.size := by
    obtain ⟨-, -, p, cap, e, -, h4⟩ := HU.out
    obtain ⟨b, off, e2, hb, -⟩ := h4 0 (by simp)
    rw [e2] at e
    simp only [Value.slice.injEq, Option.some.injEq, Addr.mk.injEq] at e
    have : b < w.heap.size + 1 + es0.size := by simpa using hb
    omega
  have HB0 : Hid (Below w.heap.size w ((more (w.alloc (Obj.cells #[cv, vv, Value.slice pn nn cn, kv] 27)) n0 es0).alloc (Obj.cells #[Value.string { data := #[107] }, Value.slice (some ⟨q, 0, none⟩) 1 1] 31))) := Lib.hid (by (repeat (first | exact Below.refl _ _ | assumption | refine nw_more ?_ _ _ | refine nw_alloc ?_ _ | refine nw_drew ?_ | refine nw_drewN ?_ _ | refine nw_set ?_ (by first | (simp; done) | (simp; omega) | omega) _)))
  have HX0 : Hid (Blc ((more (w.alloc (Obj.cells #[cv, vv, Value.slice pn nn cn, kv] 27)) n0 es0).alloc (Obj.cells #[Value.string { data := #[107] }, Value.slice (some ⟨q, 0, none⟩) 1 1] 31)) (w.heap.size + 1 + es0.size) 31 #[Value.string { data := #[107] }, Value.slice (some ⟨q, 0, none⟩) 1 1]) := Lib.hid (Blc.newAt _ _ _ (by simp))
  have HU0 : Hid (VsAt ((more (w.alloc (Obj.cells #[cv, vv, Value.slice pn nn cn, kv] 27)) n0 es0).alloc (Obj.cells #[Value.string { data := #[107] }, Value.slice (some ⟨q, 0, none⟩) 1 1] 31)) (Value.slice (some ⟨q, 0, none⟩) 1 1) [⟨1, { data := #[118] }, false⟩]) := Lib.hid (HU.out.below (by (repeat (first | exact Below.refl _ _ | assumption | refine nw_more ?_ _ _ | refine nw_alloc ?_ _ | refine nw_drew ?_ | refine nw_drewN ?_ _ | refine nw_set ?_ (by first | (simp; done) | (simp; omega) | omega) _))))
  have htb : w.heap.size ≤ w.heap.size + 1 + es0.size := by omega
  clear HU hq
  generalize (more (w.alloc (Obj.cells #[cv, vv, Value.slice pn nn cn, kv] 27)) n0 es0).alloc (Obj.cells #[Value.string { data := #[107] }, Value.slice (some ⟨q, 0, none⟩) 1 1] 31) = W0 at *
  generalize w.heap.size + 1 + es0.size = tb at *
  go_loopg [6] (r + 2) (fun g s6 wr => ∃ (k : Nat) (q c : Nat) (l : List Vr), k ≤ r + 1 ∧ g + k = r + 2 ∧ s6 = .int .i64 ((k : Int) + 1) ∧ q ≠ tb ∧ Hid (Lv k l) ∧ Hid (Blc wr tb 31 #[.string { data := #[107] }, .slice (some ⟨q, 0, none⟩) (k + 1) c]) ∧ Hid (VsAt wr (.slice (some ⟨q, 0, none⟩) (k + 1) c) l) ∧ Hid (Below w.heap.size w wr))
  case atStart => exact ⟨0, q, 1, _, by omega, by omega, rfl, by omega, Lib.hid ⟨_, rfl, by decide⟩, HX0, HU0, HB0⟩
  case round =>
    obtain ⟨k, q1, c1, l, hk, hg, rfl, hne, HL, HX, HV, HB⟩ := hrel
    obtain rfl : gk = r + 2 - k := by omega
    clear hg HX0 HU0 HB0
    have x0 := HX.out.cell 0
    have x1 := HX.out.cell 1
    have xl : Lt tb wr.heap.size := HX.out.lt
    have f0 := HX.out.free 0
    have f1 := HX.out.free 1
    simp only [List.getElem?_toArray, List.getElem?_cons_succ, List.getElem?_cons_zero] at x0 x1
    by_cases hlt : k < r + 1
    · skip
      have HL2 : Hid (Lv (k + 1) (⟨1 + 3 * ((k : Int) + 1), str1 (97 + ((k : Int) + 1)), false⟩ :: l)) := Lib.hid (lv_next HL.out rfl (by rw [one_size]; omega))
      have HC1 : Hid (chOk { data := #[107] } l = true) := Lib.hid (lv_ch HL.out (by omega))
      have HLL := Lib.hid (lv_len HL.out)
      go_wp2_with fail
      refine (add_any _ _ _ l _ _ false (by decide) (by rw [one_size]; omega) (by rw [HLL.out]; omega) (HV.out.below (by (repeat (first | exact Below.refl _ _ | assumption | refine nw_more ?_ _ _ | refine nw_alloc ?_ _ | refine nw_drew ?_ | refine nw_drewN ?_ _ | refine nw_set ?_ (by first | (simp; done) | (simp; omega) | omega) _))))).mono ?_
      rw [HC1.out, lv_ch HL2.out (by omega)]
      rintro e w' ⟨u, rfl, hu, hb⟩
      obtain ⟨hu2, q2, c2, rfl, hq2⟩ := hu rfl
      have HU := Lib.hid hu2
      rw [HLL.out] at HU
      rw [HLL.out]
      obtain ⟨n, es, rfl⟩ := below_more hb
      have hq3 : q2 ≠ tb := by have := xl.out; simp at hq2; omega
      clear hb hu hu2 hq2
      go_wp2_with fail
      refine (add_any _ _ _ l _ _ false (by decide) (by decide) (by rw [HLL.out]; omega) (HV.out.below (by (repeat (first | exact Below.refl _ _ | assumption | refine nw_more ?_ _ _ | refine nw_alloc ?_ _ | refine nw_drew ?_ | refine nw_drewN ?_ _ | refine nw_set ?_ (by first | (simp; done) | (simp; omega) | omega) _))))).mono ?_
      rw [HC1.out, lv_same HL.out (by omega)]
      rintro e w' ⟨u, rfl, -, hb⟩
      obtain ⟨n2, es2, rfl⟩ := below_more hb
      clear hb
      go_wp2_with (first | (go_at_call 9; refine (num8_any _ _).mono ?_; rintro e w' ⟨rfl, rfl⟩))
      go_roundg (r + 2 - k - 1)
      case measure => omega
      case rel =>
        refine ⟨k + 1, q2, c2, _, by omega, by omega, by go_num, hq3, HL2, Lib.hid ?_, Lib.hid ?_, Lib.hid ?_⟩
        · exact ((((((HX.out.set 0 _).set 1 _).alloc _).mre _ _).alloc _).mre _ _).alloc _
        · rw [past_all _ _ _ _ _ _ _ _ _ _ _ (by simpa using xl), past_all _ _ _ _ _ _ _ _ _ _ _ xl]
          exact ((HU.out.below (by (repeat (first | exact Below.refl _ _ | assumption | refine nw_more ?_ _ _ | refine nw_alloc ?_ _ | refine nw_drew ?_ | refine nw_drewN ?_ _ | refine nw_set ?_ (by first | (simp; done) | (simp; omega) | omega) _)))).far (a := ⟨tb, 0, none⟩) hq3 _).far (a := ⟨tb, 1, none⟩) hq3 _
        · rw [past_all _ _ _ _ _ _ _ _ _ _ _ (by simpa using xl), past_all _ _ _ _ _ _ _ _ _ _ _ xl]
          have hbel := HB.out
          exact nw_set (nw_set (by (repeat (first | exact Below.refl _ _ | assumption | refine nw_more ?_ _ _ | refine nw_alloc ?_ _ | refine nw_drew ?_ | refine nw_drewN ?_ _ | refine nw_set ?_ (by first | (simp; done) | (simp; omega) | omega) _))) htb _) htb _
    · have hkr : k = r + 1 := by omega
      subst hkr
      have HC1 : Hid (chOk { data := #[107] } l = true) := Lib.hid (lv_ch HL.out (by omega))
      have HLL := Lib.hid (lv_len HL.out)
      have HBW := HB
      clear hlt f0 f1 hk
      have hdr : decide ((r : Int) + 1 + 1 < 2 + (r : Int)) = false := by simp; omega
      rw [show (((r + 1 : Nat) : Int) + 1) = (r : Int) + 1 + 1 by omega]
      go_wp2_with fail
      go_loopg [11] (r + 3) (fun g s11 wx => (∃ n es, wx = more wr n es) ∧ ∃ j : Nat, 1 ≤ j ∧ j ≤ r + 2 ∧ g + j = r + 4 ∧ s11 = .int .i64 j)
      case atStart => exact ⟨below_more (Below.refl _ _), 1, by omega, by omega, by omega, rfl⟩
      case round =>
        obtain ⟨⟨n, es, rfl⟩, j, hj1, hj2, hg, rfl⟩ := hrel
        obtain rfl : gk = r + 4 - j := by omega
        clear hg
        by_cases hlt : j < r + 2
        · have HJ : Hid (j ≤ r + 1) := Lib.hid (by omega)
          have hdj : decide ((j : Int) < 2 + (r : Int)) = true := by simp; omega
          go_wp2_with fail
          go_loopg [12] 4 (fun g s12 wx => (∃ n es, wx = more wr n es) ∧ ∃ d : Nat, d ≤ 3 ∧ g + d = 4 ∧ s12 = .int .i64 d)
          case atStart => exact ⟨below_more (by (repeat (first | exact Below.refl _ _ | assumption | refine nw_more ?_ _ _ | refine nw_alloc ?_ _ | refine nw_drew ?_ | refine nw_drewN ?_ _ | refine nw_set ?_ (by first | (simp; done) | (simp; omega) | omega) _))), 0, by omega, by omega, rfl⟩
          case round =>
            obtain ⟨⟨n, es, rfl⟩, d, hd, hg2, rfl⟩ := hrel
            by_cases hd3 : d < 3
            · have HA := Lib.hid (lv_at HL.out j d HJ.out hd3 (1 + 3 * (j : Int) + d) rfl)
              go_wp2_with fail
              refine (at_any _ _ _ l _ (by decide) (HV.out.below (by (repeat (first | exact Below.refl _ _ | assumption | refine nw_more ?_ _ _ | refine nw_alloc ?_ _ | refine nw_drew ?_ | refine nw_drewN ?_ _ | refine nw_set ?_ (by first | (simp; done) | (simp; omega) | omega) _))))).mono ?_
              obtain ⟨s, hs⟩ := HA.out
              rw [HC1.out, hs, atTwo_some]
              clear hs
              (rintro e w' ⟨rfl, hb⟩; obtain ⟨n, es, rfl⟩ := below_more hb; clear hb)
              go_wp2_with (first | (go_at_call 9; refine (num8_any _ _).mono ?_; rintro e w' ⟨rfl, rfl⟩))
              go_roundg (gk - 1)
              case measure => omega
              case rel => exact ⟨below_more (by (repeat (first | exact Below.refl _ _ | assumption | refine nw_more ?_ _ _ | refine nw_alloc ?_ _ | refine nw_drew ?_ | refine nw_drewN ?_ _ | refine nw_set ?_ (by first | (simp; done) | (simp; omega) | omega) _))), d + 1, by omega, by omega, by go_num⟩
            · go_wp2_with fail
              go_roundg (r + 4 - j - 1)
              case measure => omega
              case rel => exact ⟨below_more (by (repeat (first | exact Below.refl _ _ | assumption | refine nw_more ?_ _ _ | refine nw_alloc ?_ _ | refine nw_drew ?_ | refine nw_drewN ?_ _ | refine nw_set ?_ (by first | (simp; done) | (simp; omega) | omega) _))), j + 1, by omega, by have := HJ.out; omega, by omega, by go_num⟩
        · have hjr : j = r + 2 := by omega
          subst hjr
          have HLF := Lib.hid (lv_left HL.out (3 * (2 + (r : Int))) (by omega))
          go_wp2_with fail
          refine (purge_any _ _ _ l _ (by decide) (by rw [HLL.out]; omega) (HV.out.below (by (repeat (first | exact Below.refl _ _ | assumption | refine nw_more ?_ _ _ | refine nw_alloc ?_ _ | refine nw_drew ?_ | refine nw_drewN ?_ _ | refine nw_set ?_ (by first | (simp; done) | (simp; omega) | omega) _)))) HC1.out).mono ?_
          obtain ⟨x, hx⟩ := HLF.out
          have HC2 : Hid (chOk { data := #[107] } [x] = true) := Lib.hid (by
            rw [← hx]
            exact chOk_of (by decide) (by rw [hx]; exact Nat.one_pos) (left_ok _ (chOk_parts HC1.out).2.2))
          rw [hx]
          clear hx HLF
          rintro e w' ⟨k', u, rfl, hu, -, hkk, hb⟩
          obtain rfl := hkk (by simp)
          have HU := Lib.hid hu
          obtain ⟨p, cap, rfl, -⟩ := hu.slice
          obtain ⟨n3, es3, rfl⟩ := below_more hb
          clear hb hu hkk
          go_wp2_with fail
          refine (count_any _ _ _ [x] (by decide) (HU.out.below (by (repeat (first | exact Below.refl _ _ | assumption | refine nw_more ?_ _ _ | refine nw_alloc ?_ _ | refine nw_drew ?_ | refine nw_drewN ?_ _ | refine nw_set ?_ (by first | (simp; done) | (simp; omega) | omega) _))))).mono ?_
          rw [HC2.out]
          (rintro e w' ⟨rfl, hb⟩; obtain ⟨n, es, rfl⟩ := below_more hb; clear hb)
          clear HC2
          go_wp2_with (first | (go_at_call 9; refine (num8_any _ _).mono ?_; rintro e w' ⟨rfl, rfl⟩) | (go_at_call 12; refine (wakes8_any _).mono ?_; (rintro e w' ⟨rfl, hb⟩; obtain ⟨n, es, rfl⟩ := below_more hb; clear hb)))
          go_ret
          exact ⟨rfl, by have hbel := HBW.out; (repeat (first | exact Below.refl _ _ | assumption | refine nw_more ?_ _ _ | refine nw_alloc ?_ _ | refine nw_drew ?_ | refine nw_drewN ?_ _ | refine nw_set ?_ (by first | (simp; done) | (simp; omega) | omega) _))⟩
end Go.Proofs.Ytkjejmikcgjnaaa
