/- Contracts of package tree: free. -/
import Derived.Test.YtaophiknldkfdaaGreatDoorTreeW
import Derived.Sort.OwnSortedInts
import Derived.Maps.AppendAt
namespace Go.Proofs.YtaophiknldkfdaaGreatDoor
open Go.RowKit

theorem sort_own (B : Nat) (w : World) (v : Value) (l : List Int) (h : OwnI B w v l) (hl : l.length ≤ 1000000) :
    Calls Tryz.prog 73 #[v] w fun e w' => e = .returned (.tuple #[]) ∧ OwnI B w' v (sorted l) ∧ w.grownBy w' v.ownBlock := by
  by_cases hv : v = .slice none 0 0
  · subst hv
    have hl0 : l = [] := by
      rcases h.2 with ⟨-, h0⟩ | ⟨g, cap, cur, e0, -⟩
      · exact List.length_eq_zero_iff.1 h0
      · cases e0
    subst hl0
    refine (Tryz.slices_Sort_int_none none 0 w).mono ?_
    rintro e w' ⟨rfl, rfl⟩
    exact ⟨rfl, by simpa [sorted] using OwnI.nil B _, ⟨rfl, rfl, rfl, Nat.le_refl _, fun _ _ _ => rfl⟩⟩
  · obtain ⟨g, cap, rfl, hb, hg, hc, hm, -, hH⟩ := Go.Lib.holds_of_ownsRow h hv
    refine (Tryz.slices_Sort_int g 0 cap l w hH hg (by omega)).mono ?_
    rintro e w' ⟨rfl, n, os, rfl⟩
    have ho := Go.Lib.ownsRow_putRow (q := n) (ys := sorted l) h (sorted_length l) (Nat.le_refl _)
    have h1 : OwnI B (Sort.putRow (Value.int .i64) (Sort.ahead w n) g 0 (sorted l).toArray) (.slice (some ⟨g, 0, none⟩) l.length cap) (sorted l) := by
      unfold OwnI
      rw [sorted_length]
      rw [List.take_of_length_le (by rw [sorted_length]; exact Nat.le_refl _)] at ho
      exact ho
    exact ⟨rfl, own_below h1 (below_grow (Below.refl _ _) (Nat.le_refl _) os), Go.grownBy_sortedI (sorted l).toArray⟩

theorem sortedB_pair : ∀ l : List Int, sortedB l = true → l.Pairwise (fun a b => a ≤ b)
  | [], _ => List.Pairwise.nil
  | [a], _ => List.pairwise_singleton _ a
  | a :: b :: r, h => by
    simp only [sortedB, Bool.and_eq_true, decide_eq_true_eq] at h
    have ih := sortedB_pair (b :: r) h.2
    refine List.Pairwise.cons ?_ ih
    intro c hc
    rcases List.mem_cons.1 hc with rfl | hc
    · exact h.1
    · exact Int.le_trans h.1 ((List.pairwise_cons.1 ih).1 c hc)
theorem insI_perm (n : Int) : ∀ l : List Int, (insI n l).Perm (l ++ [n])
  | [] => List.Perm.refl _
  | m :: r => by
    unfold insI
    split
    · exact (List.perm_append_comm (l₁ := [n]) (l₂ := m :: r))
    · exact (insI_perm n r).cons m
theorem insI_pair (n : Int) : ∀ l : List Int, l.Pairwise (fun a b => a ≤ b) → (insI n l).Pairwise (fun a b => a ≤ b)
  | [], _ => List.pairwise_singleton _ n
  | m :: r, h => by
    unfold insI
    have h1 := List.pairwise_cons.1 h
    split
    · rename_i hnm
      refine List.Pairwise.cons ?_ h
      intro c hc
      rcases List.mem_cons.1 hc with rfl | hc
      · exact hnm
      · exact Int.le_trans hnm (h1.1 c hc)
    · rename_i hnm
      refine List.Pairwise.cons ?_ (insI_pair n r h1.2)
      intro c hc
      have := (insI_perm n r).mem_iff.1 hc
      rcases List.mem_append.1 this with h2 | h2
      · exact h1.1 c h2
      · rw [List.mem_singleton] at h2; omega
theorem sorted_snoc (l : List Int) (n : Int) (h : sortedB l = true) : sorted (l ++ [n]) = insI n l := by
  have hp : (sorted (l ++ [n])).Perm (insI n l) := (List.mergeSort_perm _ _).trans (insI_perm n l).symm
  have hs : (sorted (l ++ [n])).Pairwise fun a b => decide (a ≤ b) = true := List.pairwise_mergeSort (fun a b c h1 h2 => by simp at *; omega) (fun a b => by simp; omega) _
  refine List.Perm.eq_of_pairwise (le := fun a b => a ≤ b) (fun a b _ _ h1 h2 => by omega) (hs.imp (fun h => by simpa using h)) (insI_pair n l (sortedB_pair l h)) hp
theorem insI_len (n : Int) (l : List Int) : (insI n l).length = l.length + 1 := by rw [(insI_perm n l).length_eq]; simp

set_option maxRecDepth 100000 in
set_option maxHeartbeats 2000000 in
theorem free_any {α : Type} (K : Ks α) (B tb : Nat) (w : World) (S S' : St α) (n : Nat) (h : TreeS K B tb w S) (hB : B ≤ w.heap.size) (hs : freeP S n = some S') :
    Calls Tryz.prog 55 #[.pointer (some ⟨tb, 0, none⟩), .int .i64 n] w fun e w' => e = .returned (.tuple #[]) ∧ TreeS K B tb w' S' ∧ StepT B tb w w' := by
  unfold freeP at hs
  split at hs
  case isFalse => cases hs
  rename_i hg
  obtain ⟨ha, hn, hso, hfl⟩ := hg
  obtain rfl := Option.some.inj hs
  obtain ⟨P, v, fv0, fv, hnd, hot, hfv, htb⟩ := h
  obtain rfl := hfv.same ha
  rw [← hnd, nds_len] at hn
  have hx : P[n]? = some P[n] := List.getElem?_eq_getElem hn
  generalize P[n] = x at hx
  obtain ⟨nb, nc, ev, hnb, hnc, -, -⟩ := own_pos hot.ns.row (by omega)
  subst ev
  obtain ⟨fp, fc, hff⟩ := hot.fr.slice
  obtain ⟨SN, SR, SF, SA⟩ := S
  dsimp only at *
  subst hnd
  obtain ⟨i0, hi, hz0, hz1, hz2⟩ := info_parts info_int
  have HI := Lib.hid hi
  have HOT := Lib.hid hot
  have HTB := Lib.hid htb
  have HX := Lib.hid hx
  have HSO := Lib.hid hso
  obtain ⟨p1, c1, p2, c2, p3, c3, e1, e2, e3⟩ := node_forms (hot.ns.each x (List.mem_of_getElem? hx))
  obtain ⟨q0, q1, q2, q3, qf, hnl, -⟩ := node_cells hot rfl hx
  rw [e1] at q0
  rw [e2] at q1
  rw [e3] at q2
  have z0 := qf (n * 4)
  have z1 := qf (n * 4 + 1)
  have z2 := qf (n * 4 + 2)
  have z3 := qf (n * 4 + 3)
  have h0 := htb.cell 0
  have hlt : Lt tb w.heap.size := htb.lt
  simp only [List.getElem?_toArray, List.getElem?_cons_zero] at h0
  have k1 : (n : Int) < (P.length : Int) := by omega
  have k0 : (0 : Int) ≤ (n : Int) := by omega
  have HN := Lib.hid (node_facts (tb := tb) hot rfl (y := ⟨.slice none 0 0, .slice none 0 0, .slice none 0 0, ⟨[], [], [], false⟩⟩) ⟨OwnS.nil _ _, OwnI.nil _ _, OwnI.nil _ _, Sep.none _, by simp, by simp, by simp⟩ hx (ApartN.nil fv P n _) _ rfl)
  dsimp only at HN
  have HT1 := Lib.hid (HN.out.2.2.2 _ _ _ htb (fun e => not_own hot.ns.row htb (by decide) (by rw [e]; rfl)))
  clear hot hfv htb hx hi qf e1 e2 e3
  go_enter Tryz.func55, Tryz.ntmps55
  go_upto_region 1 with (fail)
  refine wp_cut (fun W => Hid (OwnT K B W (.slice (some ⟨nb, 0, none⟩) P.length nc) fv (P.set n ⟨.slice none 0 0, .slice none 0 0, .slice none 0 0, ⟨[], [], [], false⟩⟩) SF) ∧ Hid (Blc W tb 25 #[.slice (some ⟨nb, 0, none⟩) P.length nc, .int .i64 SR, fv]) ∧ Hid (StepT B tb w W)) ?_ ?_
  · exact ⟨Lib.hid HN.out.1, HT1, Lib.hid HN.out.2.1⟩
  clear HN HT1 HOT HTB q0 q1 q2 q3 z0 z1 z2 z3 h0 hlt hnl
  rintro W ⟨HO, HT, HS⟩
  have HQ : Hid (ndsOf (P.set n ⟨.slice none 0 0, .slice none 0 0, .slice none 0 0, ⟨[], [], [], false⟩⟩) = (ndsOf P).set n ⟨[], [], [], false⟩) := Lib.hid (by rw [ndsOf, List.map_set]; rfl)
  generalize P.set n ⟨.slice none 0 0, .slice none 0 0, .slice none 0 0, ⟨[], [], [], false⟩⟩ = Q at *
  subst hff
  have hfl2 : SF.length < 999 := hfl
  have HFR : Hid (W.ownsRow B 3 1 (.slice fp SF.length fc) SF.length (SF.map (Value.int .i64))) := Lib.hid HO.out.fr
  have h2 := HT.out.cell 2
  have hfz := HT.out.free 2
  have hlt : Lt tb W.heap.size := HT.out.lt
  have hbw : B ≤ W.heap.size := Nat.le_trans hB HS.out.size
  simp only [List.getElem?_toArray, List.getElem?_cons_succ, List.getElem?_cons_zero] at h2
  go_wp2_with (at_builtin; refine wpList_append_own_at _ rfl _ _ 23 rfl B 3 i0 (.int .i64 0) 1 8 Tryz.underlying23 HI.out hz0 hz1 hz2 rfl (by decide) _ _ _ rfl (World.ownsRow.alloc HFR.out _) ⟨_, 0, none⟩ 1 1 [.int .i64 n] rfl rfl ?c1 ?c2 ?c3 ?c4 ?c5 ?_)
  case c2 => rfl
  case c3 => unfold maxLen; omega
  case c4 => omega
  case c5 => omega
  intro v' w2 hown' hgrow hnil hblk
  obtain ⟨g, gc, rfl, -, -, -, -⟩ := own_pos hown' (Nat.succ_pos _)
  have HO2 : Hid (OwnT K B w2 (.slice (some ⟨nb, 0, none⟩) P.length nc) (.slice (some ⟨g, 0, none⟩) (SF.length + 1) gc) Q (SF ++ [(n : Int)])) := Lib.hid (OwnT.free (HO.out.below (nw_alloc (Below.refl _ _) (Obj.cells #[Value.int .i64 n] 3))) hgrow (OwnI.snoc hown') (by
    rcases hblk with h | h
    · exact .inl h
    · exact .inr ⟨_, h, by simp⟩))
  have HT2 : Hid (Blc w2 tb 25 #[.slice (some ⟨nb, 0, none⟩) P.length nc, .int .i64 SR, .slice fp SF.length fc]) := Lib.hid (Blc.grown (HT.out.alloc (Obj.cells #[Value.int .i64 n] 3)) hgrow (not_own HO.out.fr HT.out (by decide)))
  have HS2 : Hid (StepT B tb W w2) := Lib.hid (by
    have hb1 : Below W.heap.size W (W.alloc (Obj.cells #[Value.int .i64 n] 3)) := nw_alloc (Below.refl _ _) _
    refine ⟨hgrow.os.trans hb1.os, hgrow.tape.trans hb1.tape, hgrow.output.trans hb1.output, Nat.le_trans hb1.size hgrow.size, fun k hk hk2 _ => ?_, fun b T cs hb _ h1 h2 h3 => Blc.grown (hb.below hb1) hgrow (not_own HO.out.fr hb h3), (oth_below hb1).trans (oth_grown (own_below HO.out.fr hb1) hgrow)⟩
    rw [hgrow.block k (Nat.lt_of_lt_of_le hk2 hb1.size) (fun e => by have := (World.ownsRow.lt HO.out.fr k e.symm).1; omega)]
    exact hb1.block k hk2)
  have h2' := HT2.out.cell 2
  have hfz' := HT2.out.free 2
  have hlt2 : Lt tb w2.heap.size := HT2.out.lt
  simp only [List.getElem?_toArray, List.getElem?_cons_succ, List.getElem?_cons_zero] at h2'
  have HSO3 : Hid (Calls Tryz.prog 73 #[.slice (some ⟨g, 0, none⟩) (SF.length + 1) gc] (w2.setCell ⟨tb, 2, none⟩ (.slice (some ⟨g, 0, none⟩) (SF.length + 1) gc)) fun e w' => e = .returned (.tuple #[]) ∧ Hid (OwnT K B w' (.slice (some ⟨nb, 0, none⟩) P.length nc) (.slice (some ⟨g, 0, none⟩) (SF.length + 1) gc) Q (insI n SF) ∧ Blc w' tb 25 #[.slice (some ⟨nb, 0, none⟩) P.length nc, .int .i64 SR, .slice (some ⟨g, 0, none⟩) (SF.length + 1) gc] ∧ StepT B tb W w')) := Lib.hid (by
    have o1 := HO2.out.set HT2.out 2 (.slice (some ⟨g, 0, none⟩) (SF.length + 1) gc)
    have t1 := HT2.out.set 2 (.slice (some ⟨g, 0, none⟩) (SF.length + 1) gc)
    have s1 := stepT_set HS2.out 2 (.slice (some ⟨g, 0, none⟩) (SF.length + 1) gc)
    refine (sort_own B _ _ (SF ++ [(n : Int)]) o1.fr (by simp; omega)).mono ?_
    rintro e w' ⟨rfl, ho, hgr⟩
    rw [sorted_snoc SF n HSO.out] at ho
    refine ⟨rfl, Lib.hid ⟨OwnT.free o1 hgr ho (.inl rfl), Blc.grown t1 hgr (not_own o1.fr t1 (by decide)), ?_⟩⟩
    refine s1.trans ⟨hgr.os, hgr.tape, hgr.output, hgr.size, fun k hk hk2 _ => hgr.block k hk2 (fun e => by have := (World.ownsRow.lt o1.fr k e.symm).1; omega), fun b T cs hb _ h1 h2 h3 => Blc.grown hb hgr (not_own o1.fr hb h3), oth_grown o1.fr hgr⟩)
  clear hown' hgrow hnil hblk HO2 HS2 HT h2 hfz hlt
  go_wp2_with (first | (go_at_call 73; refine HSO3.out.mono ?_; rintro e w3 ⟨rfl, hh⟩))
  go_end0
  obtain ⟨o3, t3, s3⟩ := hh.out
  exact ⟨rfl, ⟨Q, _, _, _, HQ.out, o3, ⟨fun _ => rfl, fun h => (by cases h), _, _, _, rfl⟩, t3⟩, HS.out.trans s3⟩
end Go.Proofs.YtaophiknldkfdaaGreatDoor
