/- Contract: a chain with one version more. No condition. -/
import Derived.Test.YtkjejmikcgjnaaaChE
import Derived.Deep.DeepCutAuto
import Derived.Deep.CutBlock
namespace Go.Proofs.Ytkjejmikcgjnaaa
open Go.RowKit

set_option maxRecDepth 100000 in
set_option maxHeartbeats 4000000 in
theorem add_any (w : World) (k : ByteArray) (v : Value) (l : List Vr) (c : Int) (s : ByteArray) (g : Bool) (hk : k.size ≤ 140737488355328) (hs : s.size ≤ 140737488355328) (hl : l.length ≤ 1000000) (h : VsAt w v l) :
    Calls Try.prog 13 #[.agg #[.string k, v], .agg #[.int .i64 c, .string s, .bool g]] w fun e w' => ∃ u, e = .returned (chTwo (chOk k l && chOk k (⟨c, s, g⟩ :: l)) k u) ∧ (chOk k l = true → VsAt w' u (⟨c, s, g⟩ :: l) ∧ ∃ q qc, u = .slice (some ⟨q, 0, none⟩) (l.length + 1) qc ∧ w.heap.size ≤ q) ∧ Below w.heap.size w w' := by
  obtain ⟨p, cap, rfl, hl47, hcap, ht⟩ := h.at
  have H := Lib.hid h
  cases hok : chOk k l
  · have HK := Lib.hid hok
    clear hok h ht
    go_enter Try.func13, Try.ntmps13
    go_wp2_with (first | (go_at_call 20; refine (mayBe_any _ _ _ l hk (H.out.below (by (repeat (first | exact Below.refl _ _ | assumption | refine nw_more ?_ _ _ | refine nw_alloc ?_ _ | refine nw_drew ?_ | refine nw_drewN ?_ _ | refine nw_set ?_ (by first | (simp; done) | (simp; omega) | omega) _))))).mono ?_; rw [HK.out]; (rintro e w' ⟨rfl, hb⟩; obtain ⟨n, es, rfl⟩ := below_more hb; clear hb)))
    refine bodyPost_ret (v := chTwo false k (.slice none 0 0)) (by simp [results, Try.results13, go_sem, E0]) rfl ⟨.slice none 0 0, rfl, fun e => Bool.noConfusion e, ?_⟩
    (repeat (first | exact Below.refl _ _ | assumption | refine nw_more ?_ _ _ | refine nw_alloc ?_ _ | refine nw_drew ?_ | refine nw_drewN ?_ _ | refine nw_set ?_ (by first | (simp; done) | (simp; omega) | omega) _))
  · have HK := Lib.hid hok
    obtain ⟨-, h0, -⟩ := chOk_parts hok
    obtain ⟨b, off, y, rfl, hb, -⟩ := ht 0 h0
    obtain ⟨i0, hi, hz0, hz1, hz2⟩ := info_parts info_version
    have HI := Lib.hid hi
    have HZ : Hid (∀ x ∈ (⟨c, s, g⟩ :: l : List Vr), x.s.size ≤ 140737488355328) := Lib.hid (fun x hx => by
      rcases List.mem_cons.1 hx with rfl | hx
      · exact hs
      · exact H.out.2.1 x hx)
    generalize hR : chOk k (⟨c, s, g⟩ :: l) = ok
    have HR := Lib.hid hR
    rw [Bool.true_and]
    clear ht h hok hR hi
    go_enter Try.func13, Try.ntmps13
    go_upto_region 3 with (first | (go_at_call 20; refine (mayBe_any _ _ _ l hk (H.out.below (by (repeat (first | exact Below.refl _ _ | assumption | refine nw_more ?_ _ _ | refine nw_alloc ?_ _ | refine nw_drew ?_ | refine nw_drewN ?_ _ | refine nw_set ?_ (by first | (simp; done) | (simp; omega) | omega) _))))).mono ?_; rw [HK.out]; (rintro e w' ⟨rfl, hb⟩; obtain ⟨n, es, rfl⟩ := below_more hb; clear hb)))
    have b1 : Blc (more (((w.alloc (Obj.cells #[.string k, .slice (some ⟨b, off, none⟩) l.length cap] 31)).alloc (Obj.cells #[.int .i64 c, .string s, .bool g] 37)).alloc (Obj.cells #[.string { data := #[] }, .slice none 0 0] 31)) n es) w.heap.size 31 #[.string k, .slice (some ⟨b, off, none⟩) l.length cap] := by (repeat (first | exact Blc.newAt _ _ _ (by simp; done) | refine Blc.alloc ?_ _ | refine Blc.mre ?_ _ _))
    have b2 : Blc (more (((w.alloc (Obj.cells #[.string k, .slice (some ⟨b, off, none⟩) l.length cap] 31)).alloc (Obj.cells #[.int .i64 c, .string s, .bool g] 37)).alloc (Obj.cells #[.string { data := #[] }, .slice none 0 0] 31)) n es) (w.heap.size + 1) 37 #[.int .i64 c, .string s, .bool g] := by (repeat (first | exact Blc.newAt _ _ _ (by simp; done) | refine Blc.alloc ?_ _ | refine Blc.mre ?_ _ _))
    have b3 : Blc (more (((w.alloc (Obj.cells #[.string k, .slice (some ⟨b, off, none⟩) l.length cap] 31)).alloc (Obj.cells #[.int .i64 c, .string s, .bool g] 37)).alloc (Obj.cells #[.string { data := #[] }, .slice none 0 0] 31)) n es) (w.heap.size + 1 + 1) 31 #[.string { data := #[] }, .slice none 0 0] := by (repeat (first | exact Blc.newAt _ _ _ (by simp; done) | refine Blc.alloc ?_ _ | refine Blc.mre ?_ _ _))
    have hbel : Below w.heap.size w (more (((w.alloc (Obj.cells #[.string k, .slice (some ⟨b, off, none⟩) l.length cap] 31)).alloc (Obj.cells #[.int .i64 c, .string s, .bool g] 37)).alloc (Obj.cells #[.string { data := #[] }, .slice none 0 0] 31)) n es) := by (repeat (first | exact Below.refl _ _ | assumption | refine nw_more ?_ _ _ | refine nw_alloc ?_ _ | refine nw_drew ?_ | refine nw_drewN ?_ _ | refine nw_set ?_ (by first | (simp; done) | (simp; omega) | omega) _))
    generalize more (((w.alloc (Obj.cells #[.string k, .slice (some ⟨b, off, none⟩) l.length cap] 31)).alloc (Obj.cells #[.int .i64 c, .string s, .bool g] 37)).alloc (Obj.cells #[.string { data := #[] }, .slice none 0 0] 31)) n es = wr at *
    have HB := Lib.hid hbel
    have HB1 := Lib.hid b1
    have HB2 := Lib.hid b2
    have HB3 := Lib.hid b3
    have HX := Lib.hid (H.out.below hbel)
    have x0 := b1.cell 0
    have x1 := b1.cell 1
    have y0 := b2.cell 0
    have y1 := b2.cell 1
    have y2 := b2.cell 2
    simp only [List.getElem?_toArray, List.getElem?_cons_succ, List.getElem?_cons_zero] at x0 x1 y0 y1 y2
    clear b1 b2 b3 hbel
    obtain ⟨C0, hC0⟩ : ∃ C0 : World → Prop, ∀ w9, C0 w9 ↔ (w9.cell? ⟨w.heap.size, 0, none⟩ = some (.string k) ∧ w9.cell? ⟨w.heap.size, 1, none⟩ = some (.slice (some ⟨b, off, none⟩) l.length cap) ∧ w9.cell? ⟨w.heap.size + 1, 0, none⟩ = some (.int .i64 c) ∧ w9.cell? ⟨w.heap.size + 1, 1, none⟩ = some (.string s) ∧ w9.cell? ⟨w.heap.size + 1, 2, none⟩ = some (.bool g)) := ⟨_, fun _ => Iff.rfl⟩
    have hCall : ∀ j vs w9, AddPost wr ok k ⟨c, s, g⟩ l (w.heap.size + 1 + 1) j vs w9 → j < 5 → C0 w9 := fun j vs w9 hp hj => by
      have q1 := ap_blc hp hj HB1.out (by omega)
      have q2 := ap_blc hp hj HB2.out (by omega)
      exact (hC0 _).2 ⟨q1.cell 0, q1.cell 1, q2.cell 0, q2.cell 1, q2.cell 2⟩
    refine wp_region_seq [3, 6, 7, 10, 11] [#[.tmp 12], #[.tmp 13, .tmp 15], #[.tmp 11, .tmp 16], #[.tmp 4, .tmp 18], #[.tmp 19]] (by kernel_rfl) (by kernel_rfl) (fun vs => by kernel_rfl) (fun w9 => ∃ p : Among C0, w9 = p.w) (fun j vs => match j with
      | 0 => #[.agg #[.int .i64 c, .string s, .bool g]]
      | 1 => #[vs.getD 0 undef, .slice (some ⟨b, off, none⟩) l.length cap]
      | 2 => #[.string k, vs.getD 1 undef]
      | 3 => #[.pointer (some ⟨w.heap.size + 1 + 1, 0, none⟩), .agg #[.string (cKey ok k), cVal ok (vs.getD 1 undef)]]
      | _ => #[.int .i64 (errE ok)]) (AddPost wr ok k ⟨c, s, g⟩ l (w.heap.size + 1 + 1)) rfl (fun j vs w9 hp hj => ⟨⟨w9, hCall j vs w9 hp hj⟩, rfl⟩) (fun j vs w9 hp => ap_len hp) (fun j vs w9 hp hj => ap_ext hl hp hj) ?hstep ?hwalk
    case hstep =>
      intro j vs w9 o hp hj ho a next hargs hn
      unfold AddPost at hp
      split at hp
      · subst hp
        obtain rfl := Option.some.inj ho
        have e1 : a.eval (.tmp 12) = .agg #[.int .i64 c, .string s, .bool g] := by simpa using congrArg (fun (x : Array Value) => x.getD 0 undef) hargs
        refine wp_buildSlice _ _ 1 _ rfl #[.int .i64 c, .string s, .bool g] i0 _ Try.underlying23 HI.out hz0 (by rw [hz1]; decide) (by rw [hz1]; decide) (by simp [e1, hz1, Instr.fill, Value.cells, show Array.range 3 = #[0, 1, 2] by decide]) ?_
        exact hn _ _ ⟨rfl, rfl⟩
      · obtain ⟨rfl, rfl⟩ := hp
        obtain rfl := Option.some.inj ho
        have e1 : a.eval (.tmp 13) = .slice (some ⟨wr.heap.size, 0, none⟩) 1 1 := by simpa using congrArg (fun (x : Array Value) => x.getD 0 undef) hargs
        have e2 : a.eval (.tmp 15) = .slice (some ⟨b, off, none⟩) l.length cap := by simpa using congrArg (fun (x : Array Value) => x.getD 1 undef) hargs
        have hb0 : Below wr.heap.size wr (wr.drew.alloc (.cells #[.int .i64 c, .string s, .bool g] 37)) := nw_alloc (nw_drew (Below.refl _ _)) _
        refine wp_append_lies _ (.tmp 13) (.tmp 15) _ rfl wr.heap.size 37 i0 _ 3 32 Try.underlying23 HI.out hz0 hz1 hz2 rfl (by decide) _ 1 (vCells [⟨c, s, g⟩]) e1 (World.ownsRow_lit (e := 37) (size := 3) (base := wr.heap.size) wr.drew #[.int .i64 c, .string s, .bool g] 1 (Nat.le_refl _) (by unfold maxLen; omega) rfl) ⟨b, off, none⟩ l.length cap (vCells l) e2 (vCells_length l) (fun j u hu => vCells_mem (HX.out.below hb0) j u hu) (vCells_one l) h0 (by unfold maxLen; omega) (by omega) (by simp) _ rfl fun g1 cap1 w1 hown hgr hat hlt => ?_
        rw [Nat.add_comm] at hown ⊢
        exact hn _ _ ⟨g1, cap1, rfl, hown, hb0.grown hgr (by simp) (by intro q hq; simp [Value.ownBlock] at hq; omega)⟩
      · obtain ⟨g1, cap1, rfl, hown, hbel⟩ := hp
        obtain rfl := Option.some.inj ho
        have e1 : a.eval (.tmp 11) = .string k := by simpa using congrArg (fun (x : Array Value) => x.getD 0 undef) hargs
        have e2 : a.eval (.tmp 16) = .slice (some ⟨g1, 0, none⟩) (l.length + 1) cap1 := by simpa using congrArg (fun (x : Array Value) => x.getD 1 undef) hargs
        unfold Oper.wp execOp
        have e3 : a.tmps[11]?.getD undef = .string k := by simpa [go_sem] using e1
        have e4 : a.tmps[16]?.getD undef = .slice (some ⟨g1, 0, none⟩) (l.length + 1) cap1 := by simpa [go_sem] using e2
        simp [e3, e4, go_sem]
        refine (made_any _ k _ (⟨c, s, g⟩ :: l) hk (hown.at (by simp; omega) HZ.out)).mono ?_
        rw [HR.out, chTwo_parts]
        rintro e w' ⟨rfl, hb2⟩
        exact hn _ _ ⟨g1, cap1, rfl, rfl, hown.below hb2, nw_trans hbel hb2⟩
      · obtain ⟨g1, cap1, rfl, rfl, hown, hbel⟩ := hp
        obtain rfl := Option.some.inj ho
        obtain ⟨p3, n3, c3, e9⟩ := cVal_slice ok (some ⟨g1, 0, none⟩) (l.length + 1) cap1
        have e1 : a.eval (.tmp 4) = .pointer (some ⟨w.heap.size + 1 + 1, 0, none⟩) := by simpa using congrArg (fun (x : Array Value) => x.getD 0 undef) hargs
        have e2 : a.eval (.tmp 18) = .agg #[.string (cKey ok k), cVal ok (.slice (some ⟨g1, 0, none⟩) (l.length + 1) cap1)] := by simpa using congrArg (fun (x : Array Value) => x.getD 1 undef) hargs
        have hbl := HB3.out.below hbel
        have s0 := hbl.cell 0
        have s1 := hbl.cell 1
        have f0 := hbl.free 0
        have f1 := hbl.free 1
        have sl := hbl.lt
        simp only [List.getElem?_toArray, List.getElem?_cons_succ, List.getElem?_cons_zero] at s0 s1
        unfold Oper.wp execOp
        have e3 : a.tmps[4]?.getD undef = .pointer (some ⟨w.heap.size + 1 + 1, 0, none⟩) := by simpa [go_sem] using e1
        have e4 : a.tmps[18]?.getD undef = .agg #[.string (cKey ok k), cVal ok (.slice (some ⟨g1, 0, none⟩) (l.length + 1) cap1)] := by simpa [go_sem] using e2
        rw [e9] at e4
        simp [e3, e4, s0, s1, f0, f1, sl, go_sem]
        rw [← e9]
        exact hn undef _ ⟨g1, cap1, _, rfl, rfl, rfl, hown, hbel, rfl⟩
      · obtain ⟨g1, cap1, w8, rfl, rfl, rfl, hown, hbel, hw⟩ := hp
        obtain rfl := Option.some.inj ho
        have e1 : a.eval (.tmp 19) = .int .i64 (errE ok) := by simpa using congrArg (fun (x : Array Value) => x.getD 0 undef) hargs
        unfold Oper.wp execOp
        have e3 : a.tmps[19]?.getD undef = .int .i64 (errE ok) := by simpa [go_sem] using e1
        simp [e3, go_sem]
        exact hn _ _ ⟨g1, cap1, w8, rfl, rfl, rfl, rfl, hown, hbel, hw⟩
      · simp at hj
      · cases hp
    case hwalk =>
      intro vs w9 hp
      obtain ⟨v1, v2, v3, v4, v5, rfl⟩ := ap_five hp
      obtain ⟨g1, cap1, w8, rfl, rfl, rfl, rfl, hown, hbel, rfl⟩ : AddPost wr ok k ⟨c, s, g⟩ l (w.heap.size + 1 + 1) 5 [v1, v2, v3, v4, v5] w9 := hp
      simp only [opsSeq, dum, posOf, Nat.reduceAdd, Nat.reduceEqDiff, if_false, if_true, Option.map_none, Option.map_some, List.getD_cons_zero, List.getD_cons_succ, reduceIte]
      have c0 : ∀ p : Among C0, p.w.cell? ⟨w.heap.size, 0, none⟩ = some (.string k) := fun p => ((hC0 _).1 p.ok).1
      have c1 : ∀ p : Among C0, p.w.cell? ⟨w.heap.size, 1, none⟩ = some (.slice (some ⟨b, off, none⟩) l.length cap) := fun p => ((hC0 _).1 p.ok).2.1
      have c2 : ∀ p : Among C0, p.w.cell? ⟨w.heap.size + 1, 0, none⟩ = some (.int .i64 c) := fun p => ((hC0 _).1 p.ok).2.2.1
      have c3 : ∀ p : Among C0, p.w.cell? ⟨w.heap.size + 1, 1, none⟩ = some (.string s) := fun p => ((hC0 _).1 p.ok).2.2.2.1
      have c4 : ∀ p : Among C0, p.w.cell? ⟨w.heap.size + 1, 2, none⟩ = some (.bool g) := fun p => ((hC0 _).1 p.ok).2.2.2.2
      have hinh : Nonempty (Among C0) := ⟨⟨wr, (hC0 _).2 ⟨x0, x1, y0, y1, y2⟩⟩⟩
      (repeat (first | go_big_quiet_skip | quiet_step (fail)))
      refine ⟨fun j hj => ?_, ?_⟩
      · match j, hj with
        | 0, _ => simp [go_sem]
        | 1, _ => simp [go_sem]
        | 2, _ => simp [go_sem]
        | 3, _ => simp [go_sem]
        | 4, _ => simp [go_sem]
      · have b3 := ((HB3.out.below hbel).set 0 (.string (cKey ok k))).set 1 (cVal ok (.slice (some ⟨g1, 0, none⟩) (l.length + 1) cap1))
        have q0 := b3.cell 0
        have q1 := b3.cell 1
        have hlt := HB3.out.lt
        have hbe : Below w.heap.size w ((w8.setCell ⟨w.heap.size + 1 + 1, 0, none⟩ (.string (cKey ok k))).setCell ⟨w.heap.size + 1 + 1, 1, none⟩ (cVal ok (.slice (some ⟨g1, 0, none⟩) (l.length + 1) cap1))) := nw_set (nw_set (nw_trans HB.out hbel) (by simp; omega) _) (by simp; omega) _
        have hg1 : wr.heap.size ≤ g1 := by
          rcases hown.2 with ⟨e, -⟩ | ⟨g2, cap2, cur, e, h9, -⟩
          · cases e
          · simp only [Value.slice.injEq, Option.some.injEq, Addr.mk.injEq] at e
            omega
        have hv := (((hown.at (by simp; omega) HZ.out).far (a := ⟨w.heap.size + 1 + 1, 0, none⟩) (by show ¬ g1 = w.heap.size + 1 + 1; omega) (.string (cKey ok k))).far (a := ⟨w.heap.size + 1 + 1, 1, none⟩) (by show ¬ g1 = w.heap.size + 1 + 1; omega) (cVal ok (.slice (some ⟨g1, 0, none⟩) (l.length + 1) cap1)))
        simp at q0 q1
        go_wp2
        refine bodyPost_ret (v := chTwo ok k (.slice (some ⟨g1, 0, none⟩) (l.length + 1) cap1)) (by rw [chTwo_parts]; simp [results, Try.results13, go_sem, q0, q1]) rfl ⟨_, rfl, fun _ => ⟨hv, g1, cap1, rfl, Nat.le_trans HB.out.size hg1⟩, hbe⟩
end Go.Proofs.Ytkjejmikcgjnaaa
