/- Contracts of package page: what is opened for one more record. -/
import Derived.Test.YtcbablighgooeaaPageB
import Derived.Deep.AppendLies
import Derived.OneCell
namespace Go.Proofs.Ytcbablighgooeaa
open Go.RowKit

theorem info_int : (Try.prog.info? 3).map (fun i => (i.zero, i.size, i.bytes)) = some (some (.int .i64 0), 1, 8) := by kernel_rfl
theorem info_string : (Try.prog.info? 9).map (fun i => (i.zero, i.size, i.bytes)) = some (some (.string { data := #[] }), 1, 16) := by kernel_rfl
theorem info_parts {t : TypeId} {z : Value} {s b : Nat} (h : (Try.prog.info? t).map (fun i => (i.zero, i.size, i.bytes)) = some (some z, s, b)) : ∃ i, Try.prog.info? t = some i ∧ i.zero = some z ∧ i.size = s ∧ i.bytes = b := by
  cases e : Try.prog.info? t with
  | none => rw [e] at h; cases h
  | some i =>
    rw [e] at h
    simp only [Option.map_some, Option.some.injEq, Prod.mk.injEq] at h
    exact ⟨i, rfl, h.1, h.2.1, h.2.2⟩
theorem OwnI.cell {B : Nat} {w : World} {g n cap : Nat} {l : List Int} (h : OwnI B w (.slice (some ⟨g, 0, none⟩) n cap) l) (j : Nat) (hj : j < l.length) : n = l.length ∧ w.cell? ⟨g, j, none⟩ = some (.int .i64 (l.getD j 0)) := by
  have hn : n = l.length := by
    rcases h.2 with ⟨h', -⟩ | ⟨g', cap', cur, h', -⟩
    · cases h'
    · simp at h'; exact h'.2.1
  subst hn
  refine ⟨rfl, ?_⟩
  have := World.ownsRow.cellAt h j (by omega)
  rw [this]; simp [List.getD, hj]
theorem OwnI.addr {B : Nat} {w : World} {u : Value} {l : List Int} (ho : OwnI B w u l) (hp : 0 < l.length) : ∃ g cap, u = .slice (some ⟨g, 0, none⟩) l.length cap ∧ l.length ≤ cap ∧ B ≤ g ∧ g < w.heap.size := by
  rcases ho.2 with ⟨-, h0⟩ | ⟨g, c, cur, rfl, hb, hg, hc, -⟩
  · omega
  · exact ⟨g, c, rfl, hc, hb, (Array.getElem?_eq_some_iff.1 hg).1⟩

set_option maxHeartbeats 1000000 in
theorem opened_free (B : Nat) (w : World) (v u : Value) (S : List ByteArray) (n0 : Int) (F : List Int) (h : PageIn B w v u S (n0 :: F)) (hz : ∀ s ∈ S, s.size ≤ 140737488355328) :
    Calls Try.prog 20 #[.agg #[v, u]] w fun e w' => ∃ u1 u2, e = .returned (.tuple #[.agg #[u1, u2], .int .i64 n0]) ∧ OwnS w.heap.size w' u1 S ∧ IntsIn w.heap.size w' u2 F ∧ ApartI u1 u2 F ∧ Below w.heap.size w w' := by
  have HP := Lib.hid h
  have HZ := Lib.hid hz
  have hF := h.2.1
  clear h hz
  go_enter Try.func20, Try.ntmps20
  go_wp2_with fail
  refine (copied_any B _ _ _ S (n0 :: F) (HP.out.below (by (repeat (first | exact Below.refl _ _ | assumption | refine nw_more ?_ _ _ | refine nw_alloc ?_ _ | refine nw_drew ?_ | refine nw_drewN ?_ _ | refine nw_set ?_ (by first | (simp; done) | (simp; omega) | omega) _))))).mono ?_
  rintro e w' ⟨u1, u2, rfl, ho1, ho2, hb⟩
  obtain ⟨g, cap, rfl, hcap, hg, hgw⟩ := OwnI.addr ho2 (by simp)
  have hc := (OwnI.cell ho2 0 (by simp)).2
  obtain ⟨q1, c1, rfl⟩ := OwnS.form ho1
  have HO1 := Lib.hid ho1
  have HO2 := Lib.hid ho2
  obtain ⟨n, es, rfl⟩ := below_more hb
  simp only [List.getD_cons_zero] at hc
  have hM : Mid g (w.heap.size + 1 + 1) es.size := by simp at hg hgw; exact ⟨by omega, by omega⟩
  have hcap1 : 1 ≤ cap := by simp at hcap; omega
  have hcapF : F.length + 1 ≤ cap := by simpa using hcap
  have HAP : Hid ((Value.slice q1 S.length c1).ownBlock ≠ some g) := Lib.hid (by
    intro e
    rcases own_apart ho1 ho2 (by decide) with h1 | h1
    · rw [h1] at e; cases e
    · exact h1 (e.trans rfl))
  clear hb ho1 ho2 hgw hg hcap
  by_cases hcap2 : cap = 1
  · subst hcap2
    obtain rfl : F = [] := List.length_eq_zero_iff.1 (by omega)
    go_wp2
    refine bodyPost_ret (v := .tuple #[.agg #[.slice q1 S.length c1, .slice (some ⟨g, 0, none⟩) 0 0], .int .i64 n0]) (by simp [results, Try.results20, go_sem]) rfl ⟨_, _, rfl, ?_, ?_, .inl rfl, ?_⟩
    · (first | (refine own_swap HO1.out ?_ ?_) | (refine World.ownsRow.alloc ?_ _; refine own_swap HO1.out ?_ ?_) | (refine own_more ?_ _ _; refine own_swap HO1.out ?_ ?_) | (refine own_more ?_ _ _; refine own_more ?_ _ _; refine own_swap HO1.out ?_ ?_)) <;> simp [go_sem] <;> omega
    · exact IntsIn.zero _ _ _ _
    · (repeat (first | exact Below.refl _ _ | assumption | refine nw_more ?_ _ _ | refine nw_alloc ?_ _ | refine nw_drew ?_ | refine nw_drewN ?_ _ | refine nw_set ?_ (by first | (simp; done) | (simp; omega) | omega) _))
  · have hcap3 : ¬ cap - 1 = 0 := by omega
    go_wp2
    refine bodyPost_ret (v := .tuple #[.agg #[.slice q1 S.length c1, .slice (some ⟨g, 1, none⟩) F.length (cap - 1)], .int .i64 n0]) (by simp [results, Try.results20, go_sem]) rfl ⟨_, _, rfl, ?_, ?_, .inr (fun e => HAP.out (e.symm.trans rfl)), ?_⟩
    · (first | (refine own_swap HO1.out ?_ ?_) | (refine World.ownsRow.alloc ?_ _; refine own_swap HO1.out ?_ ?_) | (refine own_more ?_ _ _; refine own_swap HO1.out ?_ ?_) | (refine own_more ?_ _ _; refine own_more ?_ _ _; refine own_swap HO1.out ?_ ?_)) <;> simp [go_sem] <;> omega
    · refine IntsIn.tail (n := F.length + 1) (OwnI.inn (v := .slice (some ⟨g, 0, none⟩) (F.length + 1) cap) ?_ hF)
      (first | (refine own_swap HO2.out ?_ ?_) | (refine World.ownsRow.alloc ?_ _; refine own_swap HO2.out ?_ ?_) | (refine own_more ?_ _ _; refine own_swap HO2.out ?_ ?_) | (refine own_more ?_ _ _; refine own_more ?_ _ _; refine own_swap HO2.out ?_ ?_)) <;> simp [go_sem] <;> omega
    · (repeat (first | exact Below.refl _ _ | assumption | refine nw_more ?_ _ _ | refine nw_alloc ?_ _ | refine nw_drew ?_ | refine nw_drewN ?_ _ | refine nw_set ?_ (by first | (simp; done) | (simp; omega) | omega) _))

set_option maxHeartbeats 1000000 in
theorem opened_new (B : Nat) (w : World) (v u : Value) (S : List ByteArray) (h : PageIn B w v u S []) (hs : S.length ≤ 16) :
    Calls Try.prog 20 #[.agg #[v, u]] w fun e w' => ∃ u1 u2, e = .returned (.tuple #[.agg #[u1, u2], .int .i64 S.length]) ∧ OwnS w.heap.size w' u1 (S ++ [E0]) ∧ IntsIn w.heap.size w' u2 [] ∧ Below w.heap.size w w' := by
  have HP := Lib.hid h
  obtain ⟨pv, pc, rfl, -⟩ := h.1.slice
  obtain ⟨i0, hi, hz0, hz1, hz2⟩ := info_parts info_string
  have HI := Lib.hid hi
  clear h hi
  go_enter Try.func20, Try.ntmps20
  go_wp2_with fail
  refine (copied_any B _ _ _ S [] (HP.out.below (by (repeat (first | exact Below.refl _ _ | assumption | refine nw_more ?_ _ _ | refine nw_alloc ?_ _ | refine nw_drew ?_ | refine nw_drewN ?_ _ | refine nw_set ?_ (by first | (simp; done) | (simp; omega) | omega) _))))).mono ?_
  rintro e w' ⟨u1, u2, rfl, ho1, ho2, hb⟩
  obtain ⟨q2, c2, rfl⟩ := OwnI.slice ho2
  obtain ⟨q1, c1, rfl⟩ := OwnS.form ho1
  have HO1 := Lib.hid (World.ownsRow.mono (base' := w.heap.size + 1 + 1) ho1 (by simp))
  obtain ⟨n, es, rfl⟩ := below_more hb
  clear hb ho1 ho2
  go_wp2_with (at_builtin; refine wpList_append_own _ rfl _ _ 22 rfl (w.heap.size + 1 + 1) 9 i0 (.string { data := #[] }) 1 16 Try.underlying22 HI.out hz0 hz1 hz2 rfl (by decide) _ _ _ rfl (World.ownsRow.alloc (World.ownsRow.alloc HO1.out _) _) ⟨_, 0, none⟩ 1 1 [.string { data := #[] }] rfl rfl ?c1 ?c2 ?c3 ?c4 ?c5 ?_)
  case c1 => exact news1 (by simp [go_sem])
  case c2 => exact news1_one rfl
  case c3 => unfold maxLen; omega
  case c4 => omega
  case c5 => simp; omega
  intro v' w1 hown' hgrow hnil
  have hbx : (Value.slice q1 S.length c1).ownBlock ≠ some (w.heap.size + 1 + 1 + es.size) := by
    intro e
    have := (World.ownsRow.lt HO1.out _ e).2
    simp at this
  have c0 : w1.cell? ⟨w.heap.size + 1 + 1 + es.size, 0, none⟩ = some (.slice q1 S.length c1) := hgrow.cell (a := ⟨w.heap.size + 1 + 1 + es.size, 0, none⟩) (by simp [go_sem]) (fun e => hbx e.symm)
  have c1 : w1.cell? ⟨w.heap.size + 1 + 1 + es.size, 1, none⟩ = some (.slice q2 0 c2) := hgrow.cell (a := ⟨w.heap.size + 1 + 1 + es.size, 1, none⟩) (by simp [go_sem]) (fun e => hbx e.symm)
  have f0 : w1.frozen? ⟨w.heap.size + 1 + 1 + es.size, 0, none⟩ = false := (hgrow.frozen_far ⟨w.heap.size + 1 + 1 + es.size, 0, none⟩ (by simp; omega) (fun e => hbx e.symm)).trans (by simp [go_sem])
  have hbl : Below (w.heap.size + 1 + 1) ((w.alloc (Obj.cells #[.slice pv S.length pc, u] 25)).alloc (Obj.cells #[.slice none 0 0, .slice none 0 0] 25)) w1 := by
    refine Below.grown ?_ hgrow ?_ (fun k hk => (World.ownsRow.lt HO1.out k hk).1)
    · refine Below.mono (B := ((w.alloc (Obj.cells #[.slice pv S.length pc, u] 25)).alloc (Obj.cells #[.slice none 0 0, .slice none 0 0] 25)).heap.size) ?_ (by simp)
      (repeat (first | exact Below.refl _ _ | assumption | refine nw_more ?_ _ _ | refine nw_alloc ?_ _ | refine nw_drew ?_ | refine nw_drewN ?_ _ | refine nw_set ?_ (by first | (simp; done) | (simp; omega) | omega) _))
    · simp; omega
  have hsz := hgrow.size
  have HO2 := Lib.hid (OwnS.snoc (y := { data := #[] }) hown')
  have hv : ∃ g cap, v' = .slice (some ⟨g, 0, none⟩) (S.length + 1) cap := by
    obtain ⟨g, cap, e, -⟩ := OwnS.slice HO2.out (by simp)
    exact ⟨g, cap, by rw [e]; simp⟩
  obtain ⟨g, cap, rfl⟩ := hv
  obtain ⟨n1, es1, rfl⟩ := below_more (X := ((w.alloc (Obj.cells #[.slice pv S.length pc, u] 25)).alloc (Obj.cells #[.slice none 0 0, .slice none 0 0] 25))) (by simpa using hbl)
  have hM : Mid (w.heap.size + 1 + 1 + es.size) (w.heap.size + 1 + 1) es1.size := by simp at hsz; exact ⟨by omega, by omega⟩
  have hgb : g ≠ w.heap.size + 1 + 1 + es.size := by
    rintro rfl
    have h1 := (OwnS.cell (l := S ++ [{ data := #[] }]) (cap := cap) (by simpa using HO2.out) 0 (by simp)).1
    rw [c0] at h1
    simp at h1
  have HG := Lib.hid hgb
  clear hown' hgrow hnil hbl hsz hbx hgb
  go_wp2
  go_region
  all_goals
    go_wp2
    refine bodyPost_ret (v := .tuple #[.agg #[.slice (some ⟨g, 0, none⟩) (S.length + 1) cap, .slice q2 0 c2], .int .i64 S.length]) (by simp [results, Try.results20, go_sem]) rfl ⟨_, _, rfl, ?_, IntsIn.zero _ _ _ _, by (repeat (first | exact Below.refl _ _ | assumption | refine nw_more ?_ _ _ | refine nw_alloc ?_ _ | refine nw_drew ?_ | refine nw_drewN ?_ _ | refine nw_set ?_ (by first | (simp; done) | (simp; omega) | omega) _))⟩
    refine World.ownsRow.mono (base := w.heap.size + 1 + 1) (ownsRow_setCell_below (ownsRow_setCell_below (ownsRow_setCell_other HO2.out (by simp [Value.ownBlock]; exact HG.out) _) (by simp) _) (by simp) _) (by omega)
end Go.Proofs.Ytcbablighgooeaa
