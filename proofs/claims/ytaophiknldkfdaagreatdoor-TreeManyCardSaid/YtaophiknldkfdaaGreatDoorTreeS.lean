/- Contracts of package tree: halves. -/
import Derived.Test.YtaophiknldkfdaaGreatDoorTreeR
namespace Go.Proofs.YtaophiknldkfdaaGreatDoor
open Go.RowKit

theorem getD_drop {α : Type} (l : List α) (s i : Nat) (d : α) : (l.drop s).getD i d = l.getD (s + i) d := by
  simp [List.getD, List.getElem?_drop]
theorem StrsIn.drop {B : Nat} {w : World} {b off n cap : Nat} {S : List ByteArray} (h : StrsIn B w (.slice (some ⟨b, off, none⟩) n cap) S) (s m c : Nat) (hs : s ≤ S.length) (hm : m = S.length - s) (hc : S.length ≤ c + s) : StrsIn B w (.slice (some ⟨b, off + s, none⟩) m c) (S.drop s) := by
  obtain ⟨h0, hz, p, cap', e, h1, h2⟩ := h
  cases e
  refine ⟨by simp; omega, fun x hx => hz x (List.mem_of_mem_drop hx), _, c, by rw [List.length_drop, hm], by rw [List.length_drop]; omega, fun i hi => ?_⟩
  rw [List.length_drop] at hi
  obtain ⟨b', off', e2, r1, r2, r3⟩ := h2 (s + i) (by omega)
  cases e2
  exact ⟨b, off + s, rfl, r1, r2, by rw [getD_drop, Nat.add_assoc]; exact r3⟩
theorem IntsIn.drop {B : Nat} {w : World} {b off n cap : Nat} {S : List Int} (h : IntsIn B w (.slice (some ⟨b, off, none⟩) n cap) S) (s m c : Nat) (hs : s ≤ S.length) (hm : m = S.length - s) (hc : S.length ≤ c + s) : IntsIn B w (.slice (some ⟨b, off + s, none⟩) m c) (S.drop s) := by
  obtain ⟨h0, p, cap', e, h1, h2⟩ := h
  cases e
  refine ⟨by simp; omega, _, c, by rw [List.length_drop, hm], by rw [List.length_drop]; omega, fun i hi => ?_⟩
  rw [List.length_drop] at hi
  obtain ⟨b', off', e2, r1, r2, r3⟩ := h2 (s + i) (by omega)
  cases e2
  exact ⟨b, off + s, rfl, r1, r2, by rw [getD_drop, Nat.add_assoc]; exact r3⟩
theorem StrsIn.pos {B : Nat} {w : World} {v : Value} {S : List ByteArray} (h : StrsIn B w v S) (hp : 0 < S.length) : ∃ b off cap, v = .slice (some ⟨b, off, none⟩) S.length cap ∧ Lt b w.heap.size ∧ S.length ≤ cap ∧ cap ≤ cap := by
  obtain ⟨h0, hz, p, cap, e, h1, h2⟩ := h
  obtain ⟨b, off, rfl, -, hb, -⟩ := h2 0 hp
  exact ⟨b, off, cap, e, hb, h1, Nat.le_refl _⟩
theorem IntsIn.pos {B : Nat} {w : World} {v : Value} {S : List Int} (h : IntsIn B w v S) (hp : 0 < S.length) : ∃ b off cap, v = .slice (some ⟨b, off, none⟩) S.length cap ∧ Lt b w.heap.size ∧ S.length ≤ cap := by
  obtain ⟨h0, p, cap, e, h1, h2⟩ := h
  obtain ⟨b, off, rfl, -, hb, -⟩ := h2 0 hp
  exact ⟨b, off, cap, e, hb, h1⟩

theorem st_base3 (X : World) (o p q o' p' q' : Obj) : Stays (X.heap.size + 3) (((X.alloc o).alloc p).alloc q) (((X.alloc o').alloc p').alloc q') :=
  ⟨by simp, fun k hk hk2 => by simp at hk2; omega⟩
/-- Two nodes with nothing in common. -/
structure Apart2 {α : Type} (x y : Nv α) : Prop where
  ks : Sep x.kv y.kv
  rs : Sep x.rv y.rv
  cs : Sep x.cv y.cv
  rc : Sep x.rv y.cv
  cr : Sep y.rv x.cv
def HalfPost {α : Type} (K : Ks α) (w : World) (a : Nd α) (b : α) (c : Nd α) (e : Ending) (w' : World) : Prop :=
  ∃ lo hi : Nv α, e = .returned (.tuple #[.agg #[lo.kv, lo.rv, lo.cv, .bool a.leaf], .string (K.s b), .agg #[hi.kv, hi.rv, hi.cv, .bool c.leaf]]) ∧ lo.n = a ∧ hi.n = c ∧ OwnNd K w.heap.size w' lo ∧ OwnNd K w.heap.size w' hi ∧ Apart2 lo hi ∧ Below w.heap.size w w'

set_option maxRecDepth 100000 in
set_option maxHeartbeats 10000000 in
theorem halves_leaf {α : Type} (K : Ks α) (B : Nat) (w : World) (kv rv cv : Value) (ks : List α) (rs : List Int) (b : α) (hk : KeysIn K B w kv ks) (hr : IntsIn B w rv rs) (hl : rs.length = ks.length) (hb : ks[ks.length / 2]? = some b) (hm : ks.length ≤ 1000) :
    Calls Tryz.prog 71 #[.agg #[kv, rv, cv, .bool true]] w (HalfPost K w ⟨ks.take (ks.length / 2), rs.take (ks.length / 2), [], true⟩ b ⟨ks.drop (ks.length / 2), rs.drop (ks.length / 2), [], true⟩) := by
  have hpos : ks.length / 2 < ks.length := (List.getElem?_eq_some_iff.1 hb).1
  obtain ⟨kb, ko, kc, ekv, hkb, hkc, -⟩ := StrsIn.pos hk (by rw [List.length_map]; omega)
  obtain ⟨rb, ro, rc, erv, hrb, hrc⟩ := IntsIn.pos hr (by omega)
  rw [List.length_map] at ekv hkc
  rw [hl] at erv hrc
  generalize hL : ks.length = L at *
  subst ekv erv
  have hcell : w.cell? ⟨kb, ko + L / 2, none⟩ = some (.string (K.s b)) := by
    obtain ⟨p, cap, e, -, ht⟩ := KeysIn.at hk
    obtain ⟨b', off', y, e2, -, hc, -, hy⟩ := ht (L / 2) (by rw [hL]; exact hpos)
    rw [hb] at hy
    cases hy
    simp only [Value.slice.injEq] at e
    rw [← e.1] at e2
    cases e2
    exact hc
  have HK := Lib.hid hk
  have HR := Lib.hid hr
  generalize hH : L / 2 = H at *
  have HKL := Lib.hid hL
  have hH2 : ((L : Int) / 2) = (H : Int) := by omega
  have hH3 : H < L := hpos
  have hH4 : H ≤ L := Nat.le_of_lt hH3
  have hH5 : H ≤ kc := by omega
  have hL2 : L ≤ 1000 := hm
  have HK1 : Hid (StrsIn B w (.slice (some ⟨kb, ko, none⟩) H kc) ((ks.take H).map K.s)) := Lib.hid (by rw [List.map_take]; exact StrsIn.take hk H (by rw [List.length_map]; omega))
  have HK1L : Hid (((ks.take H).map K.s).length = H) := Lib.hid (by simp; omega)
  have HK2 : Hid (StrsIn B w (.slice (some ⟨kb, ko + H, none⟩) (L - H) (kc - H)) ((ks.drop H).map K.s)) := Lib.hid (by rw [List.map_drop]; exact StrsIn.drop hk H _ _ (by rw [List.length_map]; omega) (by rw [List.length_map]; omega) (by rw [List.length_map]; omega))
  have HK2L : Hid (((ks.drop H).map K.s).length = L - H) := Lib.hid (by simp; omega)
  have HR1 : Hid (IntsIn B w (.slice (some ⟨rb, ro, none⟩) H rc) (rs.take H)) := Lib.hid (IntsIn.take hr H (by omega))
  have HR1L : Hid ((rs.take H).length = H) := Lib.hid (by simp; omega)
  have HR2 : Hid (IntsIn B w (.slice (some ⟨rb, ro + H, none⟩) (L - H) (rc - H)) (rs.drop H)) := Lib.hid (IntsIn.drop hr H _ _ (by omega) (by omega) (by omega))
  have HR2L : Hid ((rs.drop H).length = L - H) := Lib.hid (by simp; omega)
  have hH6 : H ≤ rc := by omega
  have hH7 : ¬rc = H := by omega
  have hH8 : ¬kc = H := by omega
  have hKS : ks.length ≤ 1000 := by omega
  have hRS : rs.length ≤ 1000 := by omega
  have HKL := Lib.hid hL
  have HRL := Lib.hid hl
  generalize hka : (ks.take H).map K.s = kA at *
  generalize hkb : (ks.drop H).map K.s = kB at *
  generalize hra : rs.take H = rA at *
  generalize hrb : rs.drop H = rB at *
  have HKA := Lib.hid hka
  have HKB := Lib.hid hkb
  have HRA := Lib.hid hra
  have HRB := Lib.hid hrb
  clear hk hr hb hL hl hH hpos hm hka hkb hra hrb
  go_enter Tryz.func71, Tryz.ntmps71
  go_wp2_with fail
  go_region
  go_wp2_with (first
    | (go_at_call_of 45 (Value.slice (some ⟨kb, ko, none⟩) H kc); refine (cloneS_any B _ _ kA (HK1.out.below (by (repeat (first | exact Below.refl _ _ | assumption | refine nw_more ?_ _ _ | refine nw_alloc ?_ _ | refine nw_drew ?_ | refine nw_drewN ?_ _ | refine nw_set ?_ (by first | (simp; done) | (simp; omega) | omega) _))))).mono ?_; rintro e w' ⟨ku, rfl, hok1, hb⟩; obtain ⟨n1, es1, rfl⟩ := below_more hb; clear hb; obtain ⟨kp1, kc1, e1⟩ := hok1.form; rw [HK1L.out] at e1; subst e1)
    | (go_at_call_of 45 (Value.slice (some ⟨kb, ko + H, none⟩) (L - H) (kc - H)); refine (cloneS_any B _ _ kB (HK2.out.below (by (repeat (first | exact Below.refl _ _ | assumption | refine nw_more ?_ _ _ | refine nw_alloc ?_ _ | refine nw_drew ?_ | refine nw_drewN ?_ _ | refine nw_set ?_ (by first | (simp; done) | (simp; omega) | omega) _))))).mono ?_; rintro e w' ⟨ku, rfl, hok2, hb⟩; obtain ⟨n2, es2, rfl⟩ := below_more hb; clear hb; obtain ⟨kp2, kc2, e1⟩ := hok2.form; rw [HK2L.out] at e1; subst e1))
  go_region_with (first
    | (go_at_call_of 44 (Value.slice (some ⟨rb, ro, none⟩) H rc); refine (clone_any _ _ rA ((HR1.out.below (by (repeat (first | exact Below.refl _ _ | assumption | refine nw_more ?_ _ _ | refine nw_alloc ?_ _ | refine nw_drew ?_ | refine nw_drewN ?_ _ | refine nw_set ?_ (by first | (simp; done) | (simp; omega) | omega) _)))).toAt)).mono ?_; rintro e w' ⟨ru, rfl, hor1, hb⟩; obtain ⟨n3, es3, rfl⟩ := below_more hb; clear hb; obtain ⟨rp1, rc1, e1⟩ := hor1.slice; rw [HR1L.out] at e1; subst e1)
    | (go_at_call_of 44 (Value.slice (some ⟨rb, ro + H, none⟩) (L - H) (rc - H)); refine (clone_any _ _ rB ((HR2.out.below (by (repeat (first | exact Below.refl _ _ | assumption | refine nw_more ?_ _ _ | refine nw_alloc ?_ _ | refine nw_drew ?_ | refine nw_drewN ?_ _ | refine nw_set ?_ (by first | (simp; done) | (simp; omega) | omega) _)))).toAt)).mono ?_; rintro e w' ⟨ru, rfl, hor2, hb⟩; obtain ⟨n4, es4, rfl⟩ := below_more hb; clear hb; obtain ⟨rp2, rc2, e1⟩ := hor2.slice; rw [HR2L.out] at e1; subst e1))
  all_goals
    go_wp2
    go_region
  all_goals
    go_wp2
    as_aux_lemma =>
    refine bodyPost_ret (v := .tuple #[.agg #[.slice kp1 H kc1, .slice rp1 H rc1, .slice none 0 0, .bool true], .string (K.s b), .agg #[.slice kp2 (L - H) kc2, .slice rp2 (L - H) rc2, .slice none 0 0, .bool true]]) (by simp [results, Tryz.results71, go_sem]) rfl ?_
    have f1 := fun F h => own_stays (c := w.heap.size + 3) (F := F) hok1 h (by simp [go_sem]; try omega)
    have f2 := fun F h => own_stays (c := w.heap.size + 3) (F := F) hok2 h (by simp [go_sem]; try omega)
    have f3 := fun F h => own_stays (c := w.heap.size + 3) (F := F) hor1 h (by simp [go_sem]; try omega)
    have f4 := fun F h => own_stays (c := w.heap.size + 3) (F := F) hor2 h (by simp [go_sem]; try omega)
    have g1 := sep_late hok1 ?u1 hok2
    have g2 := sep_late hor1 ?u2 hor2
    case u1 => simp [go_sem]; try omega
    case u2 => simp [go_sem]; try omega
    refine ⟨⟨.slice kp1 H kc1, .slice rp1 H rc1, .slice none 0 0, _⟩, ⟨.slice kp2 (L - H) kc2, .slice rp2 (L - H) rc2, .slice none 0 0, _⟩, rfl, rfl, rfl, ?_, ?_, ⟨g1, g2, Sep.none _, (Sep.none _).symm, (Sep.none _).symm⟩, by (repeat (first | exact Below.refl _ _ | assumption | refine nw_more ?_ _ _ | refine nw_alloc ?_ _ | refine nw_drew ?_ | refine nw_drewN ?_ _ | refine nw_set ?_ (by first | (simp; done) | (simp; omega) | omega) _))⟩
    · refine ⟨?_, ?_, OwnI.nil _ _, (Sep.none _).symm, by simp; omega, by have := HR1L.out; dsimp only; omega, by simp⟩
      · rw [HKA.out]; exact World.ownsRow.mono (f1 _ (by (repeat (first | exact st_base3 _ _ _ _ _ _ _ | refine st_both ?_ (by simp [go_sem]) _ _ | refine st_grow ?_ _ _ | refine st_drew ?_)))) (Nat.le_add_right w.heap.size 3)
      · exact World.ownsRow.mono (f3 _ (by (repeat (first | exact st_base3 _ _ _ _ _ _ _ | refine st_both ?_ (by simp [go_sem]) _ _ | refine st_grow ?_ _ _ | refine st_drew ?_)))) (Nat.le_add_right w.heap.size 3)
    · refine ⟨?_, ?_, OwnI.nil _ _, (Sep.none _).symm, by simp; omega, by have := HR2L.out; dsimp only; omega, by simp⟩
      · rw [HKB.out]; exact World.ownsRow.mono (f2 _ (by (repeat (first | exact st_base3 _ _ _ _ _ _ _ | refine st_both ?_ (by simp [go_sem]) _ _ | refine st_grow ?_ _ _ | refine st_drew ?_)))) (Nat.le_add_right w.heap.size 3)
      · exact World.ownsRow.mono (f4 _ (by (repeat (first | exact st_base3 _ _ _ _ _ _ _ | refine st_both ?_ (by simp [go_sem]) _ _ | refine st_grow ?_ _ _ | refine st_drew ?_)))) (Nat.le_add_right w.heap.size 3)
end Go.Proofs.YtaophiknldkfdaaGreatDoor
