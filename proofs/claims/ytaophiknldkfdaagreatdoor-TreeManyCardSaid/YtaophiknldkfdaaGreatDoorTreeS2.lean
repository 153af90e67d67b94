/- Contracts of package tree: halves of an inner node. -/
import Derived.Test.YtaophiknldkfdaaGreatDoorTreeS
namespace Go.Proofs.YtaophiknldkfdaaGreatDoor
open Go.RowKit

set_option maxRecDepth 100000 in
set_option maxHeartbeats 10000000 in
theorem halves_inner {α : Type} (K : Ks α) (B : Nat) (w : World) (kv rv cv : Value) (ks : List α) (rs : List Int) (b : α) (hk : KeysIn K B w kv ks) (hr : IntsIn B w cv rs) (hl : rs.length = ks.length + 1) (h3 : 3 ≤ ks.length) (hb : ks[ks.length / 2]? = some b) (hm : ks.length ≤ 1000) :
    Calls Tryz.prog 71 #[.agg #[kv, rv, cv, .bool false]] w (HalfPost K w ⟨ks.take (ks.length / 2), [], rs.take (ks.length / 2 + 1), false⟩ b ⟨ks.drop (ks.length / 2 + 1), [], rs.drop (ks.length / 2 + 1), false⟩) := by
  have hpos : ks.length / 2 < ks.length := (List.getElem?_eq_some_iff.1 hb).1
  obtain ⟨kb, ko, kc, ekv, hkb, hkc, -⟩ := StrsIn.pos hk (by rw [List.length_map]; omega)
  obtain ⟨rb, ro, rc, erv, hrb, hrc⟩ := IntsIn.pos hr (by omega)
  rw [List.length_map] at ekv hkc
  rw [hl] at erv hrc
  generalize hL : ks.length = L at *
  subst ekv erv
  have hcell : w.cell? ⟨kb, ko + L / 2, none⟩ = some (.string (K.s b)) := by
    obtain ⟨p, cap, e, -, ht⟩ := KeysIn.at hk
    obtain ⟨b', off', y, e2, -, hc, -, hy⟩ := ht (L / 2) (by rw [hL]; exact hpos)
    rw [hb] at hy
    cases hy
    simp only [Value.slice.injEq] at e
    rw [← e.1] at e2
    cases e2
    exact hc
  have HK := Lib.hid hk
  have HR := Lib.hid hr
  generalize hH : L / 2 = H at *
  have HKL := Lib.hid hL
  have hH2 : ((L : Int) / 2) = (H : Int) := by omega
  have hH3 : H < L := hpos
  have hH9 : H + 1 < L := by omega
  have hHa : H + 1 ≤ L := by omega
  have hHb : H + 1 ≤ kc := by omega
  have hHc : H + 1 ≤ L + 1 := by omega
  have hHw : IntKind.i64.wrap ((H : Int) + 1) = (H : Int) + 1 := IntWalk.i64_in _ (by omega)
  have hH4 : H ≤ L := Nat.le_of_lt hH3
  have hH5 : H ≤ kc := by omega
  have hL2 : L ≤ 1000 := hm
  have HK1 : Hid (StrsIn B w (.slice (some ⟨kb, ko, none⟩) H kc) ((ks.take H).map K.s)) := Lib.hid (by rw [List.map_take]; exact StrsIn.take hk H (by rw [List.length_map]; omega))
  have HK1L : Hid (((ks.take H).map K.s).length = H) := Lib.hid (by simp; omega)
  have HK2 : Hid (StrsIn B w (.slice (some ⟨kb, ko + (H + 1), none⟩) (L - (H + 1)) (kc - (H + 1))) ((ks.drop (H + 1)).map K.s)) := Lib.hid (by rw [List.map_drop]; exact StrsIn.drop hk (H + 1) _ _ (by rw [List.length_map]; omega) (by rw [List.length_map]; omega) (by rw [List.length_map]; omega))
  have HK2L : Hid (((ks.drop (H + 1)).map K.s).length = L - (H + 1)) := Lib.hid (by simp; omega)
  have HR1 : Hid (IntsIn B w (.slice (some ⟨rb, ro, none⟩) (H + 1) rc) (rs.take (H + 1))) := Lib.hid (IntsIn.take hr (H + 1) (by omega))
  have HR1L : Hid ((rs.take (H + 1)).length = H + 1) := Lib.hid (by simp; omega)
  have HR2 : Hid (IntsIn B w (.slice (some ⟨rb, ro + (H + 1), none⟩) (L - H) (rc - (H + 1))) (rs.drop (H + 1))) := Lib.hid (IntsIn.drop hr (H + 1) _ _ (by omega) (by omega) (by omega))
  have HR2L : Hid ((rs.drop (H + 1)).length = L - H) := Lib.hid (by simp; omega)
  have hH6 : H + 1 ≤ rc := by omega
  have hH7 : ¬rc = H + 1 := by omega
  have hH8 : ¬kc = H + 1 := by omega
  have hKS : ks.length ≤ 1000 := by omega
  have hRS : rs.length ≤ 1001 := by omega
  have HKL := Lib.hid hL
  have HRL := Lib.hid hl
  generalize hka : (ks.take H).map K.s = kA at *
  generalize hkb : (ks.drop (H + 1)).map K.s = kB at *
  generalize hra : rs.take (H + 1) = rA at *
  generalize hrb : rs.drop (H + 1) = rB at *
  have HKA := Lib.hid hka
  have HKB := Lib.hid hkb
  have HRA := Lib.hid hra
  have HRB := Lib.hid hrb
  clear hk hr hb hL hl hH hpos hm hka hkb hra hrb
  go_enter Tryz.func71, Tryz.ntmps71
  go_wp2_with fail
  go_region
  go_wp2_with (first
    | (go_at_call_of 45 (Value.slice (some ⟨kb, ko, none⟩) H kc); refine (cloneS_any B _ _ kA (HK1.out.below (by (repeat (first | exact Below.refl _ _ | assumption | refine nw_more ?_ _ _ | refine nw_alloc ?_ _ | refine nw_drew ?_ | refine nw_drewN ?_ _ | refine nw_set ?_ (by first | (simp; done) | (simp; omega) | omega) _))))).mono ?_; rintro e w' ⟨ku, rfl, hok1, hb⟩; obtain ⟨n1, es1, rfl⟩ := below_more hb; clear hb; obtain ⟨kp1, kc1, e1⟩ := hok1.form; rw [HK1L.out] at e1; subst e1)
    | (go_at_call 45; refine (cloneS_any B _ _ kB (HK2.out.below (by (repeat (first | exact Below.refl _ _ | assumption | refine nw_more ?_ _ _ | refine nw_alloc ?_ _ | refine nw_drew ?_ | refine nw_drewN ?_ _ | refine nw_set ?_ (by first | (simp; done) | (simp; omega) | omega) _))))).mono ?_; rintro e w' ⟨ku, rfl, hok2, hb⟩; obtain ⟨n2, es2, rfl⟩ := below_more hb; clear hb; obtain ⟨kp2, kc2, e1⟩ := hok2.form; rw [HK2L.out] at e1; subst e1))
  go_region_with (first
    | (go_at_call 44; refine (clone_any _ (Value.slice (some ⟨rb, ro, none⟩) (H + 1) rc) rA ((HR1.out.below (by (repeat (first | exact Below.refl _ _ | assumption | refine nw_more ?_ _ _ | refine nw_alloc ?_ _ | refine nw_drew ?_ | refine nw_drewN ?_ _ | refine nw_set ?_ (by first | (simp; done) | (simp; omega) | omega) _)))).toAt)).mono ?_; rintro e w' ⟨ru, rfl, hor1, hb⟩; obtain ⟨n3, es3, rfl⟩ := below_more hb; clear hb; obtain ⟨rp1, rc1, e1⟩ := hor1.slice; rw [HR1L.out] at e1; subst e1)
    | (go_at_call 44; refine (clone_any _ (Value.slice (some ⟨rb, ro + (H + 1), none⟩) (L - H) (rc - (H + 1))) rB ((HR2.out.below (by (repeat (first | exact Below.refl _ _ | assumption | refine nw_more ?_ _ _ | refine nw_alloc ?_ _ | refine nw_drew ?_ | refine nw_drewN ?_ _ | refine nw_set ?_ (by first | (simp; done) | (simp; omega) | omega) _)))).toAt)).mono ?_; rintro e w' ⟨ru, rfl, hor2, hb⟩; obtain ⟨n4, es4, rfl⟩ := below_more hb; clear hb; obtain ⟨rp2, rc2, e1⟩ := hor2.slice; rw [HR2L.out] at e1; subst e1))
  all_goals
    go_wp2
    go_region
  all_goals
    go_wp2
    as_aux_lemma =>
    refine bodyPost_ret (v := .tuple #[.agg #[.slice kp1 H kc1, .slice none 0 0, .slice rp1 (H + 1) rc1, .bool false], .string (K.s b), .agg #[.slice kp2 (L - (H + 1)) kc2, .slice none 0 0, .slice rp2 (L - H) rc2, .bool false]]) (by simp [results, Tryz.results71, go_sem]) rfl ?_
    have f1 := fun F h => own_stays (c := w.heap.size + 3) (F := F) hok1 h (by simp [go_sem]; try omega)
    have f2 := fun F h => own_stays (c := w.heap.size + 3) (F := F) hok2 h (by simp [go_sem]; try omega)
    have f3 := fun F h => own_stays (c := w.heap.size + 3) (F := F) hor1 h (by simp [go_sem]; try omega)
    have f4 := fun F h => own_stays (c := w.heap.size + 3) (F := F) hor2 h (by simp [go_sem]; try omega)
    have g1 := sep_late hok1 ?u1 hok2
    have g2 := sep_late hor1 ?u2 hor2
    case u1 => simp [go_sem]; try omega
    case u2 => simp [go_sem]; try omega
    refine ⟨⟨.slice kp1 H kc1, .slice none 0 0, .slice rp1 (H + 1) rc1, _⟩, ⟨.slice kp2 (L - (H + 1)) kc2, .slice none 0 0, .slice rp2 (L - H) rc2, _⟩, rfl, rfl, rfl, ?_, ?_, ⟨g1, Sep.none _, g2, Sep.none _, Sep.none _⟩, by (repeat (first | exact Below.refl _ _ | assumption | refine nw_more ?_ _ _ | refine nw_alloc ?_ _ | refine nw_drew ?_ | refine nw_drewN ?_ _ | refine nw_set ?_ (by first | (simp; done) | (simp; omega) | omega) _))⟩
    · refine ⟨?_, OwnI.nil _ _, ?_, Sep.none _, by simp; omega, by simp, by have := HR1L.out; dsimp only; omega⟩
      · rw [HKA.out]; exact World.ownsRow.mono (f1 _ (by (repeat (first | exact st_base3 _ _ _ _ _ _ _ | refine st_both ?_ (by simp [go_sem]) _ _ | refine st_grow ?_ _ _ | refine st_drew ?_)))) (Nat.le_add_right w.heap.size 3)
      · exact World.ownsRow.mono (f3 _ (by (repeat (first | exact st_base3 _ _ _ _ _ _ _ | refine st_both ?_ (by simp [go_sem]) _ _ | refine st_grow ?_ _ _ | refine st_drew ?_)))) (Nat.le_add_right w.heap.size 3)
    · refine ⟨?_, OwnI.nil _ _, ?_, Sep.none _, by simp; omega, by simp, by have := HR2L.out; dsimp only; omega⟩
      · rw [HKB.out]; exact World.ownsRow.mono (f2 _ (by (repeat (first | exact st_base3 _ _ _ _ _ _ _ | refine st_both ?_ (by simp [go_sem]) _ _ | refine st_grow ?_ _ _ | refine st_drew ?_)))) (Nat.le_add_right w.heap.size 3)
      · exact World.ownsRow.mono (f4 _ (by (repeat (first | exact st_base3 _ _ _ _ _ _ _ | refine st_both ?_ (by simp [go_sem]) _ _ | refine st_grow ?_ _ _ | refine st_drew ?_)))) (Nat.le_add_right w.heap.size 3)
end Go.Proofs.YtaophiknldkfdaaGreatDoor
