/- Contract of package page: Cut. -/
import Derived.Test.YtcbablighgooeaaPageE
namespace Go.Proofs.Ytcbablighgooeaa
open Go.RowKit

set_option maxHeartbeats 1000000 in
theorem Cut_none (B : Nat) (w : World) (v u : Value) (S : List ByteArray) (F : List Int) (n : Nat) (h : PageIn B w v u S F) (ho : PgOk S F) (hr : recB S F n = false) :
    Calls Try.prog 6 #[.agg #[v, u], .int .i64 n] w fun e w' => e = .returned (.tuple #[.agg #[.slice none 0 0, .slice none 0 0], .int .i64 3]) ∧ Below w.heap.size w w' := by
  have HP := Lib.hid h
  have HO := Lib.hid ho
  have HR := Lib.hid hr
  clear h ho hr
  go_enter Try.func6, Try.ntmps6
  go_wp2_with (first | (go_at_call 15; refine (pageMayBe_any B _ _ _ S F (HP.out.below (by (repeat (first | exact Below.refl _ _ | assumption | refine nw_more ?_ _ _ | refine nw_alloc ?_ _ | refine nw_drew ?_ | refine nw_drewN ?_ _ | refine nw_set ?_ (by first | (simp; done) | (simp; omega) | omega) _)))) HO.out).mono ?_; (rintro e w' ⟨rfl, hb⟩; obtain ⟨n, es, rfl⟩ := below_more hb; clear hb)) | (go_at_call 16; refine (isRecord_any B _ _ _ S F _ (HP.out.below (by (repeat (first | exact Below.refl _ _ | assumption | refine nw_more ?_ _ _ | refine nw_alloc ?_ _ | refine nw_drew ?_ | refine nw_drewN ?_ _ | refine nw_set ?_ (by first | (simp; done) | (simp; omega) | omega) _))))).mono ?_; rw [HR.out]; (rintro e w' ⟨rfl, hb⟩; obtain ⟨n, es, rfl⟩ := below_more hb; clear hb)))
  exact bodyPost_ret (v := .tuple #[.agg #[.slice none 0 0, .slice none 0 0], .int .i64 3]) (by simp [results, Try.results6, go_sem]) rfl ⟨rfl, by (repeat (first | exact Below.refl _ _ | assumption | refine nw_more ?_ _ _ | refine nw_alloc ?_ _ | refine nw_drew ?_ | refine nw_drewN ?_ _ | refine nw_set ?_ (by first | (simp; done) | (simp; omega) | omega) _))⟩

def CutPost (w : World) (S : List ByteArray) (F : List Int) (n : Nat) (e : Ending) (w' : World) : Prop :=
  ∃ u1 u2 S' F', e = .returned (.tuple #[.agg #[u1, u2], .int .i64 0]) ∧ PageIn w.heap.size w' u1 u2 S' F' ∧ PgOk S' F' ∧ (∀ m, recB S' F' m = (recB S F m && !decide (m = n))) ∧ (∀ m : Nat, recB S' F' m = true → S'.getD m E0 = S.getD m E0) ∧ Below w.heap.size w w'

theorem stays_swap2 {X Y : World} {n m B : Nat} {es : Array Obj} (hs : Y.heap.size = X.heap.size) (hB : X.heap.size ≤ B) : Stays B (more X n es) (more Y m es) := by
  refine ⟨by simp; omega, fun k hk hk2 => ?_⟩
  simp only [more]
  rw [Array.getElem?_append_right (by omega), Array.getElem?_append_right (by omega), hs]
theorem trim2_any (w : World) (b off c b2 off2 c2 ns nf : Nat) (S : List ByteArray) (F : List Int) (B : Nat) (hs : S.length = ns) (hf : F.length = nf) (h : PageIn B w (.slice (some ⟨b, off, none⟩) ns c) (.slice (some ⟨b2, off2, none⟩) nf c2) S F) (hF : ∀ x ∈ F, 0 ≤ x) :
    Calls Try.prog 19 #[.agg #[.slice (some ⟨b, off, none⟩) ns c, .slice (some ⟨b2, off2, none⟩) nf c2]] w fun e w' => ∃ s f, e = .returned (.agg #[.slice (some ⟨b, off, none⟩) s c, .slice (some ⟨b2, off2, none⟩) f c2]) ∧ Trim S F s f ∧ Done F s f ∧ Below w.heap.size w w' := by
  subst hs hf
  exact trimmed_any w b off c b2 off2 c2 S F B h hF

set_option maxHeartbeats 2000000 in
theorem Cut_any (B : Nat) (w : World) (v u : Value) (S : List ByteArray) (F : List Int) (m0 : Nat) (h : PageIn B w v u S F) (ho : PgOk S F) (hr : recB S F m0 = true) :
    Calls Try.prog 6 #[.agg #[v, u], .int .i64 m0] w (CutPost w S F m0) := by
  have HP := Lib.hid h
  have HO := Lib.hid ho
  have HR := Lib.hid hr
  have hn : m0 < S.length := by have := (rec_iff.1 hr).2.1; omega
  have hl := ho.len.1
  have hF := ho.free
  obtain ⟨i0, hi, hz0, hz1, hz2⟩ := info_parts info_int
  have HI := Lib.hid hi
  clear h ho hr hi
  go_enter Try.func6, Try.ntmps6
  go_wp2_with (first | (go_at_call 15; refine (pageMayBe_any B _ _ _ S F (HP.out.below (by (repeat (first | exact Below.refl _ _ | assumption | refine nw_more ?_ _ _ | refine nw_alloc ?_ _ | refine nw_drew ?_ | refine nw_drewN ?_ _ | refine nw_set ?_ (by first | (simp; done) | (simp; omega) | omega) _)))) HO.out).mono ?_; (rintro e w' ⟨rfl, hb⟩; obtain ⟨n, es, rfl⟩ := below_more hb; clear hb)) | (go_at_call 16; refine (isRecord_any B _ _ _ S F _ (HP.out.below (by (repeat (first | exact Below.refl _ _ | assumption | refine nw_more ?_ _ _ | refine nw_alloc ?_ _ | refine nw_drew ?_ | refine nw_drewN ?_ _ | refine nw_set ?_ (by first | (simp; done) | (simp; omega) | omega) _))))).mono ?_; rw [HR.out]; (rintro e w' ⟨rfl, hb⟩; obtain ⟨n, es, rfl⟩ := below_more hb; clear hb)))
  refine (copied_any B _ _ _ S F (HP.out.below (by (repeat (first | exact Below.refl _ _ | assumption | refine nw_more ?_ _ _ | refine nw_alloc ?_ _ | refine nw_drew ?_ | refine nw_drewN ?_ _ | refine nw_set ?_ (by first | (simp; done) | (simp; omega) | omega) _))))).mono ?_
  rintro e w1 ⟨u1, u2, rfl, ho1, ho2, hb⟩
  obtain ⟨g, cap, rfl, hg, hgw⟩ := OwnS.slice ho1 (by omega)
  obtain ⟨q2, c2, rfl⟩ := OwnI.slice ho2
  have hbt : Below ((w.alloc (Obj.cells #[v, u] 25)).alloc (Obj.cells #[.slice none 0 0, .slice none 0 0] 25)).heap.size ((w.alloc (Obj.cells #[v, u] 25)).alloc (Obj.cells #[.slice none 0 0, .slice none 0 0] 25)) w1 := nw_trans (by (repeat (first | exact Below.refl _ _ | assumption | refine nw_more ?_ _ _ | refine nw_alloc ?_ _ | refine nw_drew ?_ | refine nw_drewN ?_ _ | refine nw_set ?_ (by first | (simp; done) | (simp; omega) | omega) _))) hb
  have HO1 : Hid (OwnS (w.heap.size + 1 + 1) w1 (.slice (some ⟨g, 0, none⟩) S.length cap) S) := Lib.hid (World.ownsRow.mono ho1 (by simp; omega))
  have HO2 : Hid (OwnI (w.heap.size + 1 + 1) w1 (.slice q2 F.length c2) F) := Lib.hid (World.ownsRow.mono ho2 (by simp; omega))
  obtain ⟨n1, es1, rfl⟩ := below_more hbt
  have hM : Mid g (w.heap.size + 1 + 1) es1.size := ⟨by have := (World.ownsRow.lt HO1.out g rfl).1; exact this, by have := (World.ownsRow.lt HO1.out g rfl).2; simp at this; exact this⟩
  obtain ⟨hc, hf⟩ := OwnS.cell HO1.out m0 hn
  have HO1' := Lib.hid (OwnS.set HO1.out m0 E0)
  have HAP : Hid ((Value.slice q2 F.length c2).ownBlock ≠ some g) := Lib.hid (by
    intro e
    rcases own_apart ho2 ho1 (by decide) with h1 | h1
    · rw [h1] at e; cases e
    · exact h1 (e.trans rfl))
  have k1 : (m0 : Int) < (S.length : Int) := by omega
  clear hb hbt ho1 ho2 hg hgw HO1
  go_wp2_with (at_builtin; refine wpList_append_own _ rfl _ _ 23 rfl (w.heap.size + 1 + 1) 3 i0 (.int .i64 0) 1 8 Try.underlying23 HI.out hz0 hz1 hz2 rfl (by decide) _ _ _ rfl (World.ownsRow.alloc (World.ownsRow.alloc (ownsRow_setCell_other HO2.out HAP.out _) _) _) ⟨_, 0, none⟩ 1 1 [.int .i64 m0] rfl rfl ?c1 ?c2 ?c3 ?c4 ?c5 ?_)
  case c1 => exact news1 (by simp [go_sem])
  case c2 => exact news1_one rfl
  case c3 => unfold maxLen; omega
  case c4 => omega
  case c5 => simp; omega
  intro v' w3 hown' hgrow hnil
  have hb0 : Blc (((more ((w.alloc (Obj.cells #[v, u] 25)).alloc (Obj.cells #[.slice none 0 0, .slice none 0 0] 25)) n1 es1).setCell ⟨g, m0, none⟩ (.string { data := #[] })).alloc (Obj.cells #[.slice (some ⟨g, 0, none⟩) S.length cap, .slice q2 F.length c2] 25)) (w.heap.size + 1 + 1 + es1.size) 25 #[.slice (some ⟨g, 0, none⟩) S.length cap, .slice q2 F.length c2] := by
    have h := Blc.new ((more ((w.alloc (Obj.cells #[v, u] 25)).alloc (Obj.cells #[.slice none 0 0, .slice none 0 0] 25)) n1 es1).setCell ⟨g, m0, none⟩ (.string { data := #[] })) 25 #[.slice (some ⟨g, 0, none⟩) S.length cap, .slice q2 F.length c2]
    simpa using h
  have hq2 : (Value.slice q2 F.length c2).ownBlock ≠ some (w.heap.size + 1 + 1 + es1.size) := fun e => by
    have := (World.ownsRow.lt HO2.out _ e).2
    simp at this
  have hb3 := (hb0.alloc (Obj.cells #[.int .i64 m0] 3)).grown hgrow hq2
  have HS3 : Hid (OwnS (w.heap.size + 1 + 1) w3 (.slice (some ⟨g, 0, none⟩) S.length cap) (S.set m0 E0)) := Lib.hid (World.ownsRow.kept (World.ownsRow.alloc (World.ownsRow.alloc HO1'.out _) _) hgrow (.inr (fun e => HAP.out (e.symm.trans rfl))))
  have hi3 : OwnI (w.heap.size + 1 + 1) w3 v' (F ++ [(m0 : Int)]) := OwnI.snoc hown'
  obtain ⟨gi, ci, ev, hci, hgi, -⟩ := OwnI.addr hi3 (by simp)
  rw [show (F ++ [(m0 : Int)]).length = F.length + 1 by simp] at ev hci
  subst ev
  have hgb : gi ≠ w.heap.size + 1 + 1 + es1.size := fun e => OwnI.not hi3 hb3 (by decide) (by rw [← e]; rfl)
  have hgg : g ≠ gi := fun e => by
    rcases own_apart HS3.out hi3 (by decide) with h1 | h1
    · cases h1
    · exact h1 (by rw [e]; rfl)
  have hbl : Below ((w.alloc (Obj.cells #[v, u] 25)).alloc (Obj.cells #[.slice none 0 0, .slice none 0 0] 25)).heap.size ((w.alloc (Obj.cells #[v, u] 25)).alloc (Obj.cells #[.slice none 0 0, .slice none 0 0] 25)) w3 := by
    refine Below.grown ?_ hgrow (by simp; try omega) (fun k hk => by have := (World.ownsRow.lt HO2.out k hk).1; simp; omega)
    have hgw : w.heap.size + 1 + 1 ≤ g := hM.1
    have h1 : Below ((w.alloc (Obj.cells #[v, u] 25)).alloc (Obj.cells #[.slice none 0 0, .slice none 0 0] 25)).heap.size ((w.alloc (Obj.cells #[v, u] 25)).alloc (Obj.cells #[.slice none 0 0, .slice none 0 0] 25)) (more ((w.alloc (Obj.cells #[v, u] 25)).alloc (Obj.cells #[.slice none 0 0, .slice none 0 0] 25)) n1 es1) := by (repeat (first | exact Below.refl _ _ | assumption | refine nw_more ?_ _ _ | refine nw_alloc ?_ _ | refine nw_drew ?_ | refine nw_drewN ?_ _ | refine nw_set ?_ (by first | (simp; done) | (simp; omega) | omega) _))
    exact ((h1.setCell (by simp; try omega) _).alloc (by simp; try omega) _).alloc (by simp; try omega) _
  obtain ⟨n3, es3, rfl⟩ := below_more hbl
  have hM3 : Mid (w.heap.size + 1 + 1 + es1.size) (w.heap.size + 1 + 1) es3.size := by
    have := hb3.lt; simp at this; exact ⟨by omega, by omega⟩
  have c1 := hb3.cell 1
  have f1 := hb3.free 1
  simp only [List.getElem?_toArray] at c1
  have HB3 := Lib.hid hb3
  have HI3 := Lib.hid hi3
  clear hown' hgrow hnil hb0 hbl hb3 hi3 hc hf HO1' HAP HO2
  go_wp2_with fail
  have hi4 : OwnI (w.heap.size + 1 + 1) ((more ((w.alloc (Obj.cells #[v, u] 25)).alloc (Obj.cells #[.slice none 0 0, .slice none 0 0] 25)) n3 es3).setCell ⟨(w.heap.size + 1 + 1 + es1.size), 1, none⟩ (.slice (some ⟨gi, 0, none⟩) (F.length + 1) ci)) (.slice (some ⟨gi, 0, none⟩) (F.length + 1) ci) (F ++ [(m0 : Int)]) :=
    ownsRow_setCell_other HI3.out (by simp only [Value.ownBlock, ne_eq, Option.some.injEq]; exact hgb) _
  have hs4 : OwnS (w.heap.size + 1 + 1) ((more ((w.alloc (Obj.cells #[v, u] 25)).alloc (Obj.cells #[.slice none 0 0, .slice none 0 0] 25)) n3 es3).setCell ⟨(w.heap.size + 1 + 1 + es1.size), 1, none⟩ (.slice (some ⟨gi, 0, none⟩) (F.length + 1) ci)) (.slice (some ⟨g, 0, none⟩) S.length cap) (S.set m0 E0) :=
    ownsRow_setCell_other HS3.out (by have h1 := OwnS.not (b := (w.heap.size + 1 + 1 + es1.size)) (T := 25) HS3.out HB3.out (by decide); exact h1) _
  have hb4 := HB3.out.set 1 (.slice (some ⟨gi, 0, none⟩) (F.length + 1) ci)
  refine (sort_grown _ _ _ _ hi4 (by simp; omega)).mono ?_
  rintro e w5 ⟨rfl, ho5, hg5⟩
  have hb5 := hb4.grown hg5 (by simp only [Value.ownBlock, ne_eq, Option.some.injEq]; exact hgb)
  have hs5 : OwnS (w.heap.size + 1 + 1) w5 (.slice (some ⟨g, 0, none⟩) S.length cap) (S.set m0 E0) := World.ownsRow.kept hs4 hg5 (.inr (by simp only [Value.ownBlock, ne_eq, Option.some.injEq]; exact hgg))
  have hbl : Below ((w.alloc (Obj.cells #[v, u] 25)).alloc (Obj.cells #[.slice none 0 0, .slice none 0 0] 25)).heap.size ((w.alloc (Obj.cells #[v, u] 25)).alloc (Obj.cells #[.slice none 0 0, .slice none 0 0] 25)) w5 := by
    have h1 : Below ((w.alloc (Obj.cells #[v, u] 25)).alloc (Obj.cells #[.slice none 0 0, .slice none 0 0] 25)).heap.size ((w.alloc (Obj.cells #[v, u] 25)).alloc (Obj.cells #[.slice none 0 0, .slice none 0 0] 25)) (more ((w.alloc (Obj.cells #[v, u] 25)).alloc (Obj.cells #[.slice none 0 0, .slice none 0 0] 25)) n3 es3) := by (repeat (first | exact Below.refl _ _ | assumption | refine nw_more ?_ _ _ | refine nw_alloc ?_ _ | refine nw_drew ?_ | refine nw_drewN ?_ _ | refine nw_set ?_ (by first | (simp; done) | (simp; omega) | omega) _))
    exact (h1.setCell (by simp; try omega) _).grown hg5 (by simp; try omega) (fun k hk => by simp only [Value.ownBlock, Option.some.injEq] at hk; simp; omega)
  obtain ⟨n5, es5, rfl⟩ := below_more hbl
  have hM5 : Mid (w.heap.size + 1 + 1 + es1.size) (w.heap.size + 1 + 1) es5.size := by
    have := hb5.lt; simp at this; exact ⟨by omega, by omega⟩
  have d0 := hb5.cell 0
  have d1 := hb5.cell 1
  simp at d0 d1
  obtain ⟨hco, hrec⟩ := cut_ok HO.out HR.out
  have HPI : Hid (PageIn (w.heap.size + 1 + 1) (more ((w.alloc (Obj.cells #[v, u] 25)).alloc (Obj.cells #[.slice none 0 0, .slice none 0 0] 25)) n5 es5) (.slice (some ⟨g, 0, none⟩) S.length cap) (.slice (some ⟨gi, 0, none⟩) (F.length + 1) ci) (S.set m0 E0) (sorted (F ++ [(m0 : Int)]))) := Lib.hid ⟨OwnS.inn hs5 (by rw [List.length_set]; omega) (fun x hx => by
      rcases List.mem_or_eq_of_mem_set hx with hx | rfl
      · have := HO.out.small x hx; omega
      · show 0 ≤ _; omega), OwnI.inn ho5 (by rw [sorted_length]; simp; omega)⟩
  have HCO := Lib.hid hco
  have HREC := Lib.hid hrec
  have HL1 := Lib.hid (show (S.set m0 E0).length = S.length from List.length_set)
  have HL2 := Lib.hid (show (sorted (F ++ [(m0 : Int)])).length = F.length + 1 by rw [sorted_length]; simp)
  clear hi4 hs4 hb4 ho5 hg5 hb5 hs5 hbl c1 f1 HB3 HI3 HS3 hM3 hco hrec
  go_wp2_with fail
  refine (trim2_any _ g 0 cap gi 0 ci S.length (F.length + 1) (S.set m0 E0) (sorted (F ++ [(m0 : Int)])) (w.heap.size + 1 + 1) HL1.out HL2.out (HPI.out.below (by (repeat (first | exact Below.refl _ _ | assumption | refine nw_more ?_ _ _ | refine nw_alloc ?_ _ | refine nw_drew ?_ | refine nw_drewN ?_ _ | refine nw_set ?_ (by first | (simp; done) | (simp; omega) | omega) _)))) (fun x hx => (HCO.out.low x hx).1)).mono ?_
  rintro e w6 ⟨s, f, rfl, ht, hd, hb6⟩
  obtain ⟨hok, hrt⟩ := trim_ok HCO.out ht hd
  have HOK := Lib.hid hok
  have HRT := Lib.hid hrt
  have HT := Lib.hid ht
  obtain ⟨n6, es6, rfl⟩ := below_more hb6
  clear hb6 hok hrt ht hd
  go_wp2
  refine bodyPost_ret (v := .tuple #[.agg #[.slice (some ⟨g, 0, none⟩) s cap, .slice (some ⟨gi, 0, none⟩) f ci], .int .i64 0]) (by simp [results, Try.results6, go_sem]) rfl ⟨_, _, _, _, rfl, ?_, HOK.out, fun m => by rw [HRT.out m, HREC.out m], ?_, ?_⟩
  · have h1 := (HPI.out.stays (stays_swap2 (m := n5) (Y := ((w.alloc (Obj.cells #[v, u] 25)).alloc (Obj.cells #[.slice (some ⟨g, 0, none⟩) s cap, .slice (some ⟨gi, 0, none⟩) f ci] 25))) (by simp) (by simp))).below (w' := more (more ((w.alloc (Obj.cells #[v, u] 25)).alloc (Obj.cells #[.slice (some ⟨g, 0, none⟩) s cap, .slice (some ⟨gi, 0, none⟩) f ci] 25)) n5 es5) n6 es6) (by (repeat (first | exact Below.refl _ _ | assumption | refine nw_more ?_ _ _ | refine nw_alloc ?_ _ | refine nw_drew ?_ | refine nw_drewN ?_ _ | refine nw_set ?_ (by first | (simp; done) | (simp; omega) | omega) _)))
    have h2 := h1.mono (B' := w.heap.size) (by omega)
    exact ⟨h2.1.take s HT.out.1, h2.2.take f HT.out.2.1⟩
  · intro m hm
    have h1 := (rec_iff.1 hm).2.1
    have h2 : m < s := by rw [List.length_take] at h1; omega
    have h3 : recB S F m = true ∧ ¬ (m : Int) = m0 := by
      rw [HRT.out m, HREC.out m] at hm
      simpa using hm
    exact trim_text h2 (by have := h3.2; omega) hn
  · (repeat (first | exact Below.refl _ _ | assumption | refine nw_more ?_ _ _ | refine nw_alloc ?_ _ | refine nw_drew ?_ | refine nw_drewN ?_ _ | refine nw_set ?_ (by first | (simp; done) | (simp; omega) | omega) _))
end Go.Proofs.Ytcbablighgooeaa
