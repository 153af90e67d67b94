/- Contract: Read. No condition. -/
import Derived.Test.YtaelgappabecgaaCoL
namespace Go.Proofs.Ytaelgappabecgaa
open Go.RowKit

theorem firstP_nil (run n : Nat) : firstP [] run n = none := by
  have h : takeP [] = none := by
    unfold takeP
    have : rOk (recP []).1 (recP []).2 = false := rfl
    rw [this]; rfl
  unfold firstP
  rw [joinP]
  dsimp only
  rw [h]
def RdOut (w : World) (res : List (Int × List Wr) × Nat) (e : Ending) (w' : World) : Prop := ∃ v P, e = .returned (.tuple #[v, .int .i64 res.2, .int .i64 0]) ∧ P.map Rv.pl = res.1 ∧ RdI w.heap.size w' v P ∧ Below w.heap.size w w'
set_option maxRecDepth 100000 in
set_option maxHeartbeats 16000000 in
theorem read_any (w : World) (v : Value) (S : List ByteArray) (run n0 : Nat) (h : SsAt w v S) (hl : S.length ≤ 1000000) (hr : run ≤ 1073741824) (hn : n0 ≤ 1073741824) :
    Calls Try.prog 10 #[v, .int .i64 run, .int .i64 n0] w (RdOut w (readP (S.length + 1) S run n0)) := by
  obtain ⟨i0, hi, hz0, hz1, hz2⟩ := info_parts info_rec
  have HI := Lib.hid hi
  obtain ⟨p, cap, rfl, hcap⟩ := h.slice
  have H := Lib.hid h
  have hrb : (decide (0 ≤ (run : Int)) && decide ((run : Int) ≤ 1073741824)) = true := by simp; omega
  have hnb : (decide (0 ≤ (n0 : Int)) && decide ((n0 : Int) ≤ 1073741824)) = true := by simp; omega
  have HRB := Lib.hid hrb
  have HNB := Lib.hid hnb
  generalize hR : readP (S.length + 1) S run n0 = R
  have HR0 := Lib.hid hR
  clear h hi hrb hnb hR
  go_enter Try.func10, Try.ntmps10
  go_wp2_with (first | (go_at_call 19; refine (isNumber_any _ _).mono ?_; (first | rw [HRB.out] | rw [HNB.out]); rintro e w' ⟨rfl, rfl⟩))
  go_loopg [2, 6, 7] (S.length + 1) (fun g s2 s6 s7 wr => ∃ (k nn : Nat) (u : Value) (P : List Rv), k ≤ S.length ∧ S.length + 1 ≤ g + k ∧ nn ≤ 1073741825 ∧ P.length ≤ k ∧ s2 = .int .i64 nn ∧ s6 = u ∧ s7 = .int .i64 k ∧ Hid (R = (P.map Rv.pl ++ (readP g (S.drop k) run nn).1, k + (readP g (S.drop k) run nn).2)) ∧ Hid (RdI w.heap.size wr u P) ∧ Hid (Below w.heap.size w wr))
  case atStart => exact ⟨0, n0, _, [], Nat.zero_le _, by omega, by omega, by simp, rfl, rfl, rfl, Lib.hid (by rw [← HR0.out]; simp), Lib.hid ⟨OwnR.nil _ _, fun x hx => by cases hx⟩, Lib.hid (Below.refl _ _)⟩
  case round =>
    clear HR0
    obtain ⟨k, nn, u, P, hk, hg, hnn, hP, rfl, rfl, rfl, HR, HD, HB⟩ := hrel
    have hzr := HB.out.size
    cases gk with
    | zero => omega
    | succ g =>
    obtain ⟨q0, qc0, e0⟩ := HD.out.row.slice
    by_cases hle : nn ≤ 1073741824
    · have hlei : (nn : Int) ≤ 1073741824 := by omega
      have hw2 := H.out.below HB.out
      by_cases hke : k = S.length
      · have hfp : firstP (S.drop k) run nn = none := by rw [hke, List.drop_length]; exact firstP_nil run nn
        have hfin := HR.out
        rw [readP, if_pos hle, hfp] at hfin
        simp only [List.append_nil, Nat.add_zero] at hfin
        subst hfin
        clear HR hfp hw2 e0
        obtain ⟨q0, qc0, rfl⟩ := HD.out.row.slice
        have hkc : (S.length : Int) = (k : Int) := by omega
        subst hke
        have hcase : cap = S.length ∨ ¬ cap = S.length := by omega
        rcases hcase with hce | hce
        all_goals
          go_wp2_with fail
          refine (first_any _ _ [] run nn (SsAt.nil _ _ _) hr hle).mono ?_
          rw [firstP_nil]
          rintro e w' ⟨he, hb⟩
          obtain rfl : e = .returned (.tuple #[.agg #[.int .i64 0, .slice none 0 0], .int .i64 0]) := he
          obtain ⟨n1, es1, rfl⟩ := below_more hb
          clear hb
          go_wp2
          refine bodyPost_ret (v := .tuple #[.slice q0 P.length qc0, .int .i64 S.length, .int .i64 0]) (by simp [results, Try.results10, go_sem]) rfl ⟨_, P, rfl, rfl, HD.out.below (by (repeat (first | exact Below.refl _ _ | assumption | refine nw_more ?_ _ _ | refine nw_alloc ?_ _ | refine nw_drew ?_ | refine nw_drewN ?_ _ | refine nw_set ?_ (by first | (simp; done) | (simp; omega) | omega) _))), ?_⟩
          have hb1 := HB.out
          (repeat (first | exact Below.refl _ _ | assumption | refine nw_more ?_ _ _ | refine nw_alloc ?_ _ | refine nw_drew ?_ | refine nw_drewN ?_ _ | refine nw_set ?_ (by first | (simp; done) | (simp; omega) | omega) _))
      · obtain ⟨b, off, rfl⟩ : ∃ b off, p = some ⟨b, off, none⟩ := by
          rcases hw2.form with ⟨e1, -⟩ | ⟨b, off, c1, e1, -⟩
          · rw [e1] at hke hk; simp at hke hk; omega
          · simp only [Value.slice.injEq] at e1
            exact ⟨b, off, e1.1⟩
        have HSD := Lib.hid (hw2.drop k hk)
        have hcl : k < cap := by omega
        have hcl2 : ¬ cap = k := by omega
        clear hw2
        cases hfp : firstP (S.drop k) run nn with
        | none =>
          have hfin := HR.out
          rw [readP, if_pos hle, hfp] at hfin
          simp only [List.append_nil, Nat.add_zero] at hfin
          subst hfin
          have HFP := Lib.hid hfp
          clear HR hfp e0
          obtain ⟨q0, qc0, rfl⟩ := HD.out.row.slice
          go_wp2_with fail
          refine (first_any _ _ (S.drop k) run nn HSD.out hr hle).mono ?_
          rw [HFP.out]
          rintro e w' ⟨he, hb⟩
          obtain rfl : e = .returned (.tuple #[.agg #[.int .i64 0, .slice none 0 0], .int .i64 0]) := he
          obtain ⟨n1, es1, rfl⟩ := below_more hb
          clear hb
          go_wp2
          refine bodyPost_ret (v := .tuple #[.slice q0 P.length qc0, .int .i64 k, .int .i64 0]) (by simp [results, Try.results10, go_sem]) rfl ⟨_, P, rfl, rfl, HD.out.below (by (repeat (first | exact Below.refl _ _ | assumption | refine nw_more ?_ _ _ | refine nw_alloc ?_ _ | refine nw_drew ?_ | refine nw_drewN ?_ _ | refine nw_set ?_ (by first | (simp; done) | (simp; omega) | omega) _))), ?_⟩
          have hb1 := HB.out
          (repeat (first | exact Below.refl _ _ | assumption | refine nw_more ?_ _ _ | refine nw_alloc ?_ _ | refine nw_drew ?_ | refine nw_drewN ?_ _ | refine nw_set ?_ (by first | (simp; done) | (simp; omega) | omega) _))
        | some rm =>
          obtain ⟨⟨c, l⟩, m⟩ := rm
          obtain ⟨hm1, hm2, hok⟩ := firstP_le hfp
          dsimp only at hok
          rw [List.length_drop] at hm1
          obtain ⟨-, -, hl64, hall⟩ := rOk_parts hok
          have hfin := HR.out
          rw [readP, if_pos hle, hfp] at hfin
          dsimp only at hfin
          rw [List.drop_drop] at hfin
          have HFIN := Lib.hid hfin
          have HFP := Lib.hid hfp
          have HALL := Lib.hid hall
          clear HR hfp hok hall hfin
          subst e0
          have hm0 : ¬ (m : Int) = 0 := by omega
          have hmb : ((m : Int) == 0) = false := beq_eq_false_iff_ne.2 hm0
          go_wp2_with fail
          refine (first_any _ _ (S.drop k) run nn HSD.out hr hle).mono ?_
          rw [HFP.out]
          rintro e w2 ⟨⟨u, he, ho⟩, hb⟩
          dsimp only at he ho
          subst he
          obtain ⟨up, uc, rfl⟩ := ho.slice
          have HO := Lib.hid (World.ownsRow.mono (base' := w.heap.size) ho hzr)
          have HD2 := Lib.hid (HD.out.below hb)
          have HB2 := Lib.hid (HB.out.trans (hb.mono hzr))
          have hzr2 : w.heap.size ≤ w2.heap.size := HB2.out.size
          clear ho hb HD HB hzr
          go_wp2_with (at_builtin; refine wpList_append_own _ rfl _ _ 22 rfl w.heap.size 34 i0 (.agg #[.int .i64 0, .slice none 0 0]) 2 32 Try.underlying22 HI.out hz0 hz1 hz2 rfl (by decide) _ P.length (rvCells P) rfl (own_below HD2.out.row (by (repeat (first | exact Below.refl _ _ | assumption | refine nw_more ?_ _ _ | refine nw_alloc ?_ _ | refine nw_drew ?_ | refine nw_drewN ?_ _ | refine nw_set ?_ (by first | (simp; done) | (simp; omega) | omega) _)))) ⟨_, 0, none⟩ 1 1 [.int .i64 c, .slice up l.length uc] rfl rfl ?c1 ?c2 ?c3 ?c4 ?c5 ?_)
          case c1 => exact news2 (by simp [go_sem]) (by simp [go_sem])
          case c2 => exact news2_one rfl rfl
          case c3 => unfold maxLen; omega
          case c4 => omega
          case c5 => simp; omega
          intro V w3 hown' hgrow hnil
          clear hnil
          have hX : Below w2.heap.size w2 ((w2.alloc (Obj.cells #[.int .i64 c, .slice up l.length uc] 34)).alloc (Obj.cells #[.int .i64 c, .slice up l.length uc] 34)) := by (repeat (first | exact Below.refl _ _ | assumption | refine nw_more ?_ _ _ | refine nw_alloc ?_ _ | refine nw_drew ?_ | refine nw_drewN ?_ _ | refine nw_set ?_ (by first | (simp; done) | (simp; omega) | omega) _))
          have hrd := RdI.snoc (x := ⟨c, .slice up l.length uc, l⟩) (HD2.out.below hX) (own_below HO.out hX) hown' hgrow
          have hbw : Below w.heap.size w w3 := below_append (w := w) (HB2.out.trans (hX.mono hzr2)) (own_below HD2.out.row hX) hgrow
          have HRD := Lib.hid hrd
          have HBW := Lib.hid hbw
          have HRF : Hid (R = ((P ++ [(⟨c, .slice up l.length uc, l⟩ : Rv)]).map Rv.pl ++ (readP g (S.drop (k + m)) run (nn + 1)).1, (k + m) + (readP g (S.drop (k + m)) run (nn + 1)).2)) := Lib.hid (by
            rw [HFIN.out, List.map_append, List.append_assoc, Nat.add_assoc]; rfl)
          clear hX hown' hgrow hrd hbw HFIN HD2 HB2 HO
          have hpl : (P ++ [(⟨c, .slice up l.length uc, l⟩ : Rv)]).length ≤ k + m := by rw [List.length_append]; show P.length + 1 ≤ k + m; omega
          go_wp2
          go_roundg g
          case measure => omega
          case rel => exact ⟨k + m, nn + 1, V, P ++ [⟨c, .slice up l.length uc, l⟩], by omega, by omega, by omega, hpl, by go_num, rfl, by go_num, HRF, HRD, HBW⟩
    · have hlei : ¬ (nn : Int) ≤ 1073741824 := by omega
      have hfin := HR.out
      rw [readP, if_neg hle, List.append_nil, Nat.add_zero] at hfin
      subst hfin
      clear HR e0
      obtain ⟨q0, qc0, rfl⟩ := HD.out.row.slice
      go_wp2
      exact bodyPost_ret (v := .tuple #[.slice q0 P.length qc0, .int .i64 k, .int .i64 0]) (by simp [results, Try.results10, go_sem]) rfl ⟨_, P, rfl, rfl, HD.out, HB.out⟩
end Go.Proofs.Ytaelgappabecgaa
