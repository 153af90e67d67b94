/- Contracts of package tree: joined. -/
import Derived.Test.YtaophiknldkfdaaGreatDoorTreeT
import Derived.Test.YtaophiknldkfdaaGreatDoorTCat
import Derived.Maps.AppendAt
namespace Go.Proofs.YtaophiknldkfdaaGreatDoor
open Go.RowKit

theorem gr_below {w X w' : World} {row : Option Nat} (hb : Below w.heap.size w X) (hg : X.grownBy w' row) : w.grownBy w' row :=
  ⟨hg.os.trans hb.os, hg.tape.trans hb.tape, hg.output.trans hb.output, Nat.le_trans hb.size hg.size, fun k hk hne => (hg.block k (Nat.lt_of_lt_of_le hk hb.size) hne).trans (hb.block k hk)⟩
theorem gr_then {w W F : World} {row : Option Nat} (hg : w.grownBy W row) (hb : Below w.heap.size W F) : w.grownBy F row :=
  ⟨hb.os.trans hg.os, hb.tape.trans hg.tape, hb.output.trans hg.output, Nat.le_trans hg.size hb.size, fun k hk hne => (hb.block k hk).trans (hg.block k hk hne)⟩
theorem gr_refl (w : World) (row : Option Nat) : w.grownBy w row := ⟨rfl, rfl, rfl, Nat.le_refl _, fun _ _ _ => rfl⟩
theorem OwnNd.keys_in {α : Type} {K : Ks α} {B : Nat} {w : World} {v : Value} {l : List α} (h : OwnS B w v (l.map K.s)) (hl : l.length ≤ 1000) : StrsIn B w v (l.map K.s) :=
  OwnS.inn h (by rw [List.length_map]; omega) (fun s hs => by obtain ⟨a, -, rfl⟩ := List.mem_map.1 hs; exact K.hsz a)
def JoinPost {α : Type} (K : Ks α) (w : World) (kv : Value) (n : Nd α) (e : Ending) (w' : World) : Prop :=
  ∃ y : Nv α, e = .returned (.agg #[y.kv, y.rv, y.cv, .bool n.leaf]) ∧ y.n = n ∧ OwnNd K w.heap.size w' y ∧ w.grownBy w' kv.ownBlock
theorem st_bot {A F : World} {c : Nat} (h : A.heap.size ≤ c) (hs : A.heap.size ≤ F.heap.size) : Stays c A F := ⟨hs, fun k h1 h2 => by omega⟩
theorem st_al {A B : World} {c : Nat} (h : Stays c A B) (o : Obj) : Stays c A (B.alloc o) :=
  ⟨Nat.le_trans h.1 (by simp), fun k h1 h2 => by rw [Below.heap_alloc B o k (Nat.lt_of_lt_of_le h2 h.1)]; exact h.2 k h1 h2⟩
theorem st_alloc2 {A B : World} {c : Nat} (h : Stays c A B) (hs : A.heap.size = B.heap.size) (o : Obj) : Stays c (A.alloc o) (B.alloc o) := by
  refine ⟨by simp [hs], fun k hk hk2 => ?_⟩
  rcases Nat.lt_or_ge k A.heap.size with h1 | h1
  · rw [Below.heap_alloc A o k h1, Below.heap_alloc B o k (by omega)]
    exact h.2 k hk h1
  · obtain rfl : k = A.heap.size := by simp at hk2; omega
    rw [World.alloc_heap_new A o]
    rw [hs]
    exact World.alloc_heap_new B o

set_option maxRecDepth 100000 in
set_option maxHeartbeats 20000000 in
theorem joined_any {α : Type} (K : Ks α) (B : Nat) (w : World) (kv rv cv kv2 rv2 cv2 : Value) (n1 n2 : Nd α) (b : α) (h1 : OwnNd K B w ⟨kv, rv, cv, n1⟩) (h2 : OwnNd K B w ⟨kv2, rv2, cv2, n2⟩) (hs : Sep kv kv2) (hB : B ≤ w.heap.size) (hk : n1.keys.length + n2.keys.length < 999) (hr : n1.rows.length + n2.rows.length < 999) (hc : n1.kids.length + n2.kids.length < 999) :
    Calls Tryz.prog 72 #[.agg #[kv, rv, cv, .bool n1.leaf], .string (K.s b), .agg #[kv2, rv2, cv2, .bool n2.leaf]] w (JoinPost K w kv (joinedP n1 b n2)) := by
  obtain ⟨p1, c1, p2, c2, p3, c3, e1, e2, e3⟩ := node_forms h1
  obtain ⟨q1, d1, q2, d2, q3, d3, f1, f2, f3⟩ := node_forms h2
  dsimp only at e1 e2 e3 f1 f2 f3
  subst e1 e2 e3 f1 f2 f3
  obtain ⟨i0, hi, hz0, hz1, hz2⟩ := info_parts info_string
  have HI := Lib.hid hi
  have H1 := Lib.hid h1
  have H2 := Lib.hid h2
  have HS := Lib.hid hs
  obtain ⟨ks1, rs1, cs1, lf1⟩ := n1
  obtain ⟨ks2, rs2, cs2, lf2⟩ := n2
  dsimp only at *
  clear h1 h2 hs hi
  cases lf1 with
    | true =>
      have hbel : ∀ (o1 o2 o3 : Obj), Below w.heap.size w (((w.alloc o1).alloc o2).alloc o3) := fun o1 o2 o3 => by (repeat (first | exact Below.refl _ _ | assumption | refine nw_more ?_ _ _ | refine nw_alloc ?_ _ | refine nw_drew ?_ | refine nw_drewN ?_ _ | refine nw_set ?_ (by first | (simp; done) | (simp; omega) | omega) _))
      have HB1 : ∀ (a b c : Array Value), Blc (((w.alloc (.cells a 53)).alloc (.cells b 53)).alloc (.cells c 53)) w.heap.size 53 a ∧ Blc (((w.alloc (.cells a 53)).alloc (.cells b 53)).alloc (.cells c 53)) (w.heap.size + 1) 53 b ∧ Blc (((w.alloc (.cells a 53)).alloc (.cells b 53)).alloc (.cells c 53)) (w.heap.size + 1 + 1) 53 c := fun a b c => ⟨((Blc.new w _ _).alloc _).alloc _, (Blc.newAt _ _ _ (by simp)).alloc _, Blc.newAt _ _ _ (by simp)⟩
      go_enter Tryz.func72, Tryz.ntmps72
      go_upto_region 4 with (fail)
      refine wp_cut (fun W => Hid (StrsIn B W (.slice p1 (ks1.length) c1) ((ks1).map K.s)) ∧ Hid (w.grownBy W (Value.slice p1 ks1.length c1).ownBlock) ∧
    Hid (Blc W w.heap.size 53 #[.slice p1 ks1.length c1, .slice p2 rs1.length c2, .slice p3 cs1.length c3, .bool true]) ∧ Hid (Blc W (w.heap.size + 1) 53 #[.slice q1 ks2.length d1, .slice q2 rs2.length d2, .slice q3 cs2.length d3, .bool lf2]) ∧ Hid (Blc W (w.heap.size + 1 + 1) 53 #[.slice none 0 0, .slice none 0 0, .slice none 0 0, .bool false])) ?_ ?_
      · exact ⟨Lib.hid (OwnNd.keys_in (own_below H1.out.1 (hbel _ _ _)) H1.out.2.2.2.2.1), Lib.hid (gr_below (hbel _ _ _) (gr_refl _ _)), Lib.hid (HB1 _ _ _).1, Lib.hid (HB1 _ _ _).2.1, Lib.hid (HB1 _ _ _).2.2⟩
      clear hbel HB1
      rintro W ⟨HK, HG, HBa, HBb, HBc⟩
      have HK2 : Hid (StrsIn B W (.slice q1 ks2.length d1) (ks2.map K.s)) := Lib.hid (OwnNd.keys_in (World.ownsRow.kept H2.out.1 HG.out HS.out.symm) H2.out.2.2.2.2.1)
      have HR1 : Hid (IntsIn B W (.slice p2 rs1.length c2) rs1) := Lib.hid (OwnI.inn (World.ownsRow.kept H1.out.2.1 HG.out (own_apart H1.out.2.1 H1.out.1 (by decide))) (by omega))
      have HR2 : Hid (IntsIn B W (.slice q2 rs2.length d2) rs2) := Lib.hid (OwnI.inn (World.ownsRow.kept H2.out.2.1 HG.out (own_apart H2.out.2.1 H1.out.1 (by decide))) (by omega))
      have HC1 : Hid (IntsIn B W (.slice p3 cs1.length c3) cs1) := Lib.hid (OwnI.inn (World.ownsRow.kept H1.out.2.2.1 HG.out (own_apart H1.out.2.2.1 H1.out.1 (by decide))) (by omega))
      have HC2 : Hid (IntsIn B W (.slice q3 cs2.length d3) cs2) := Lib.hid (OwnI.inn (World.ownsRow.kept H2.out.2.2.1 HG.out (own_apart H2.out.2.2.1 H1.out.1 (by decide))) (by omega))
      have HLK : Hid (((ks1).map K.s).length = ks1.length) := Lib.hid (by simp)
      have HLK2 : Hid ((ks2.map K.s).length = ks2.length) := Lib.hid (by simp)
      have HSZ : Hid (w.heap.size ≤ W.heap.size) := Lib.hid HG.out.size
      have hle1 : ks1.length + ks2.length ≤ 1000000 := by omega
      have hle2 : rs1.length + rs2.length ≤ 1000000 := by omega
      have hle3 : cs1.length + cs2.length ≤ 1000000 := by omega
      obtain ⟨N1, hN1⟩ : ∃ N, ((ks1).map K.s ++ ks2.map K.s).length = N := ⟨_, rfl⟩
      obtain ⟨N2, hN2⟩ : ∃ N, (rs1 ++ rs2).length = N := ⟨_, rfl⟩
      obtain ⟨N3, hN3⟩ : ∃ N, (cs1 ++ cs2).length = N := ⟨_, rfl⟩
      have HN1 := Lib.hid hN1
      have HN2 := Lib.hid hN2
      have HN3 := Lib.hid hN3
      clear hN1 hN2 hN3
      have a1 := HBa.out.cell 1
      have a2 := HBa.out.cell 2
      have a3 := HBa.out.cell 3
      have b0 := HBb.out.cell 0
      have b1 := HBb.out.cell 1
      have b2 := HBb.out.cell 2
      have g0 := HBc.out.cell 0
      have g1 := HBc.out.cell 1
      have g2 := HBc.out.cell 2
      have g3 := HBc.out.cell 3
      have z0 := HBc.out.free 0
      have z1 := HBc.out.free 1
      have z2 := HBc.out.free 2
      have z3 := HBc.out.free 3
      have la : Lt w.heap.size W.heap.size := HBa.out.lt
      have lb : Lt (w.heap.size + 1) W.heap.size := HBb.out.lt
      have lc : Lt (w.heap.size + 1 + 1) W.heap.size := HBc.out.lt
      simp only [List.getElem?_toArray, List.getElem?_cons_succ, List.getElem?_cons_zero] at a1 a2 a3 b0 b1 b2 g0 g1 g2 g3
      go_region_held3 (fun w9 => w9.cell? ⟨w.heap.size, 1, none⟩ = some (.slice p2 rs1.length c2) ∧ w9.cell? ⟨w.heap.size, 2, none⟩ = some (.slice p3 cs1.length c3) ∧ w9.cell? ⟨w.heap.size, 3, none⟩ = some (.bool true) ∧ w9.cell? ⟨w.heap.size + 1, 0, none⟩ = some (.slice q1 ks2.length d1) ∧ w9.cell? ⟨w.heap.size + 1, 1, none⟩ = some (.slice q2 rs2.length d2) ∧ w9.cell? ⟨w.heap.size + 1, 2, none⟩ = some (.slice q3 cs2.length d3)) (simp [go_sem, *]) (first
        | (go_at_call 82; refine (concatS_any B _ _ _ _ _ _ _ _ 51 ((ks1).map K.s) (ks2.map K.s) (HK.out.below (by (repeat (first | exact Below.refl _ _ | assumption | refine nw_more ?_ _ _ | refine nw_alloc ?_ _ | refine nw_drew ?_ | refine nw_drewN ?_ _ | refine nw_set ?_ (by first | (simp; done) | (simp; omega) | omega) _)))) (HK2.out.below (by (repeat (first | exact Below.refl _ _ | assumption | refine nw_more ?_ _ _ | refine nw_alloc ?_ _ | refine nw_drew ?_ | refine nw_drewN ?_ _ | refine nw_set ?_ (by first | (simp; done) | (simp; omega) | omega) _)))) HLK.out HLK2.out (by (repeat (first | exact Blc.newAt _ _ _ (by simp; done) | refine Blc.alloc ?_ _ | refine Blc.mre ?_ _ _))) hle1).mono ?_; rintro e w' ⟨u1, rfl, hok, hb⟩; obtain ⟨n1, es1, rfl⟩ := below_more hb; clear hb; obtain ⟨kp, kc, e1⟩ := hok.form; rw [HN1.out] at e1; subst e1)
        | (have hz := hor; clear hz; go_at_call 83; refine (concatI_any B _ _ _ _ _ _ _ _ 23 cs1 cs2 (HC1.out.below (by (repeat (first | exact Below.refl _ _ | assumption | refine nw_more ?_ _ _ | refine nw_alloc ?_ _ | refine nw_drew ?_ | refine nw_drewN ?_ _ | refine nw_set ?_ (by first | (simp; done) | (simp; omega) | omega) _)))) (HC2.out.below (by (repeat (first | exact Below.refl _ _ | assumption | refine nw_more ?_ _ _ | refine nw_alloc ?_ _ | refine nw_drew ?_ | refine nw_drewN ?_ _ | refine nw_set ?_ (by first | (simp; done) | (simp; omega) | omega) _)))) rfl rfl (by (repeat (first | exact Blc.newAt _ _ _ (by simp; done) | refine Blc.alloc ?_ _ | refine Blc.mre ?_ _ _))) hle3).mono ?_; rintro e w' ⟨u3, rfl, hoc, hb⟩; obtain ⟨n3, es3, rfl⟩ := below_more hb; clear hb; obtain ⟨cp, cc, e1⟩ := hoc.slice; rw [HN3.out] at e1; subst e1)
        | (go_at_call 83; refine (concatI_any B _ _ _ _ _ _ _ _ 23 rs1 rs2 (HR1.out.below (by (repeat (first | exact Below.refl _ _ | assumption | refine nw_more ?_ _ _ | refine nw_alloc ?_ _ | refine nw_drew ?_ | refine nw_drewN ?_ _ | refine nw_set ?_ (by first | (simp; done) | (simp; omega) | omega) _)))) (HR2.out.below (by (repeat (first | exact Below.refl _ _ | assumption | refine nw_more ?_ _ _ | refine nw_alloc ?_ _ | refine nw_drew ?_ | refine nw_drewN ?_ _ | refine nw_set ?_ (by first | (simp; done) | (simp; omega) | omega) _)))) rfl rfl (by (repeat (first | exact Blc.newAt _ _ _ (by simp; done) | refine Blc.alloc ?_ _ | refine Blc.mre ?_ _ _))) hle2).mono ?_; rintro e w' ⟨u2, rfl, hor, hb⟩; obtain ⟨n2, es2, rfl⟩ := below_more hb; clear hb; obtain ⟨rp, rc, e1⟩ := hor.slice; rw [HN2.out] at e1; subst e1))
      all_goals
        go_wp2
        as_aux_lemma =>
        have hB4 := (((HBc.out.set 0 (.slice kp N1 kc)).set 1 (.slice rp N2 rc)).set 2 (.slice cp N3 cc)).set 3 (.bool true)
        have hS4 : ((((W.setCell ⟨w.heap.size + 1 + 1, 0, none⟩ (.slice kp N1 kc)).setCell ⟨w.heap.size + 1 + 1, 1, none⟩ (.slice rp N2 rc)).setCell ⟨w.heap.size + 1 + 1, 2, none⟩ (.slice cp N3 cc)).setCell ⟨w.heap.size + 1 + 1, 3, none⟩ (.bool true)).heap.size = W.heap.size := by simp
        have hL4 : Below w.heap.size W ((((W.setCell ⟨w.heap.size + 1 + 1, 0, none⟩ (.slice kp N1 kc)).setCell ⟨w.heap.size + 1 + 1, 1, none⟩ (.slice rp N2 rc)).setCell ⟨w.heap.size + 1 + 1, 2, none⟩ (.slice cp N3 cc)).setCell ⟨w.heap.size + 1 + 1, 3, none⟩ (.bool true)) := ((((Below.refl w.heap.size W).setCell (p := ⟨w.heap.size + 1 + 1, 0, none⟩) (show w.heap.size ≤ w.heap.size + 1 + 1 by omega) _).setCell (p := ⟨w.heap.size + 1 + 1, 1, none⟩) (show w.heap.size ≤ w.heap.size + 1 + 1 by omega) _).setCell (p := ⟨w.heap.size + 1 + 1, 2, none⟩) (show w.heap.size ≤ w.heap.size + 1 + 1 by omega) _).setCell (p := ⟨w.heap.size + 1 + 1, 3, none⟩) (show w.heap.size ≤ w.heap.size + 1 + 1 by omega) _
        generalize ((((W.setCell ⟨w.heap.size + 1 + 1, 0, none⟩ (.slice kp N1 kc)).setCell ⟨w.heap.size + 1 + 1, 1, none⟩ (.slice rp N2 rc)).setCell ⟨w.heap.size + 1 + 1, 2, none⟩ (.slice cp N3 cc)).setCell ⟨w.heap.size + 1 + 1, 3, none⟩ (.bool true)) = X0 at *
        have x0 := hB4.cell 0
        have x1 := hB4.cell 1
        have x2 := hB4.cell 2
        have x3 := hB4.cell 3
        have lx : Lt (w.heap.size + 1 + 1) X0.heap.size := hB4.lt
        simp only [List.setIfInBounds_toArray, List.set_cons_zero, List.set_cons_succ, List.getElem?_toArray, List.getElem?_cons_succ, List.getElem?_cons_zero] at x0 x1 x2 x3
        refine bodyPost_ret (v := .agg #[.slice kp N1 kc, .slice rp N2 rc, .slice cp N3 cc, .bool true]) (by simp [results, Tryz.results72, go_sem, x0, x1, x2, x3, lx]) rfl ?_
        have hsz := HSZ.out
        have f1 := fun F h => own_stays (c := W.heap.size) (F := F) hok h (by simp [go_sem]; try omega)
        have f2 := fun F h => own_stays (c := W.heap.size) (F := F) hor h (by simp [go_sem]; try omega)
        have f3 := fun F h => own_stays (c := W.heap.size) (F := F) hoc h (by simp [go_sem]; try omega)
        have g2 := sep_late hor ?u2 hoc
        case u2 => simp [go_sem]; try omega
        refine ⟨⟨.slice kp N1 kc, .slice rp N2 rc, .slice cp N3 cc, joinedP ⟨ks1, rs1, cs1, true⟩ b ⟨ks2, rs2, cs2, lf2⟩⟩, rfl, rfl, ⟨?_, ?_, ?_, g2, ?_, ?_, ?_⟩, gr_then HG.out (hL4.trans (Below.mono (B := X0.heap.size) (by (repeat (first | exact Below.refl _ _ | assumption | refine nw_more ?_ _ _ | refine nw_alloc ?_ _ | refine nw_drew ?_ | refine nw_drewN ?_ _ | refine nw_set ?_ (by first | (simp; done) | (simp; omega) | omega) _))) (by omega)))⟩
        · suffices h : OwnS w.heap.size _ (.slice kp N1 kc) ((ks1).map K.s ++ ks2.map K.s) by simpa [joinedP] using h
          exact World.ownsRow.mono (f1 _ (by (repeat (first | (with_reducible refine st_both ?_ ?_ _ _; rotate_left; focus (simp [go_sem, hS4]; done)) | with_reducible refine st_drew ?_ | (with_reducible refine st_alloc2 ?_ ?_ _; rotate_left; focus (simp [go_sem, hS4]; done)) | with_reducible refine st_grow ?_ _ _ | with_reducible refine st_al ?_ _ | (refine st_bot ?_ ?_; (focus (simp; done)); (focus (simp [hS4]; done))))))) hsz
        · exact World.ownsRow.mono (f2 _ (by (repeat (first | (with_reducible refine st_both ?_ ?_ _ _; rotate_left; focus (simp [go_sem, hS4]; done)) | with_reducible refine st_drew ?_ | (with_reducible refine st_alloc2 ?_ ?_ _; rotate_left; focus (simp [go_sem, hS4]; done)) | with_reducible refine st_grow ?_ _ _ | with_reducible refine st_al ?_ _ | (refine st_bot ?_ ?_; (focus (simp; done)); (focus (simp [hS4]; done))))))) hsz
        · exact World.ownsRow.mono (f3 _ (by (repeat (first | (with_reducible refine st_both ?_ ?_ _ _; rotate_left; focus (simp [go_sem, hS4]; done)) | with_reducible refine st_drew ?_ | (with_reducible refine st_alloc2 ?_ ?_ _; rotate_left; focus (simp [go_sem, hS4]; done)) | with_reducible refine st_grow ?_ _ _ | with_reducible refine st_al ?_ _ | (refine st_bot ?_ ?_; (focus (simp; done)); (focus (simp [hS4]; done))))))) hsz
        · simp [joinedP]; omega
        · simp [joinedP]; omega
        · simp [joinedP]; omega
    | false =>
      have hbel : ∀ (o1 o2 o3 : Obj), Below w.heap.size w (((w.alloc o1).alloc o2).alloc o3) := fun o1 o2 o3 => by (repeat (first | exact Below.refl _ _ | assumption | refine nw_more ?_ _ _ | refine nw_alloc ?_ _ | refine nw_drew ?_ | refine nw_drewN ?_ _ | refine nw_set ?_ (by first | (simp; done) | (simp; omega) | omega) _))
      have HB1 : ∀ (a b c : Array Value), Blc (((w.alloc (.cells a 53)).alloc (.cells b 53)).alloc (.cells c 53)) w.heap.size 53 a ∧ Blc (((w.alloc (.cells a 53)).alloc (.cells b 53)).alloc (.cells c 53)) (w.heap.size + 1) 53 b ∧ Blc (((w.alloc (.cells a 53)).alloc (.cells b 53)).alloc (.cells c 53)) (w.heap.size + 1 + 1) 53 c := fun a b c => ⟨((Blc.new w _ _).alloc _).alloc _, (Blc.newAt _ _ _ (by simp)).alloc _, Blc.newAt _ _ _ (by simp)⟩
      have HOW : ∀ (o1 o2 o3 o4 : Obj), Hid (((((w.alloc o1).alloc o2).alloc o3).alloc o4).ownsRow B 9 1 (.slice p1 ks1.length c1) (ks1.map K.s).length ((ks1.map K.s).map Value.string)) := fun o1 o2 o3 o4 => Lib.hid (own_below H1.out.1 (by (repeat (first | exact Below.refl _ _ | assumption | refine nw_more ?_ _ _ | refine nw_alloc ?_ _ | refine nw_drew ?_ | refine nw_drewN ?_ _ | refine nw_set ?_ (by first | (simp; done) | (simp; omega) | omega) _))))
      go_enter Tryz.func72, Tryz.ntmps72
      go_upto_region 3 with (fail)
      go_wp2_with (at_builtin; refine wpList_append_own_at _ rfl _ _ 51 rfl B 9 i0 (.string { data := #[] }) 1 16 Tryz.underlying51 HI.out hz0 hz1 hz2 rfl (by decide) _ _ _ rfl (HOW _ _ _ _).out ⟨_, 0, none⟩ 1 1 [.string (K.s b)] rfl rfl ?c1 ?c2 ?c3 ?c4 ?c5 ?_)
      case c1 => exact news1 (by simp [go_sem])
      case c2 => simp [Value.oneCell']
      case c3 => unfold maxLen; simp; omega
      case c4 => simp; omega
      case c5 => simp; omega
      intro v' w2 hown' hgrow hnil hblk
      obtain ⟨g, gc, rfl, -, -, -, -⟩ := own_pos hown' (Nat.succ_pos _)
      go_upto_region 4 with (fail)
      have hb4 : ∀ (o1 o2 o3 o4 : Obj), Below w.heap.size w ((((w.alloc o1).alloc o2).alloc o3).alloc o4) := fun o1 o2 o3 o4 => by (repeat (first | exact Below.refl _ _ | assumption | refine nw_more ?_ _ _ | refine nw_alloc ?_ _ | refine nw_drew ?_ | refine nw_drewN ?_ _ | refine nw_set ?_ (by first | (simp; done) | (simp; omega) | omega) _))
      have hne : ∀ m, w.heap.size ≤ m → (Value.slice p1 ks1.length c1).ownBlock ≠ some m := fun m hm e => by have := (World.ownsRow.lt H1.out.1 m e).2; omega
      have hgr := gr_below (hb4 _ _ _ _) hgrow
      have hs2 : w2.ownsRow B 9 1 (.slice (some ⟨g, 0, none⟩) (ks1.length + 1) gc) (ks1.length + 1) (((ks1 ++ [b]).map K.s).map Value.string) := by simpa using hown'
      refine wp_cut (fun W => Hid (StrsIn B W (.slice (some ⟨g, 0, none⟩) (ks1.length + 1) gc) ((ks1 ++ [b]).map K.s)) ∧ Hid (w.grownBy W (Value.slice p1 ks1.length c1).ownBlock) ∧
    Hid (Blc W w.heap.size 53 #[.slice p1 ks1.length c1, .slice p2 rs1.length c2, .slice p3 cs1.length c3, .bool false]) ∧ Hid (Blc W (w.heap.size + 1) 53 #[.slice q1 ks2.length d1, .slice q2 rs2.length d2, .slice q3 cs2.length d3, .bool lf2]) ∧ Hid (Blc W (w.heap.size + 1 + 1) 53 #[.slice none 0 0, .slice none 0 0, .slice none 0 0, .bool false])) ?_ ?_
      · exact ⟨Lib.hid (OwnNd.keys_in (by unfold OwnS; rw [List.length_map, List.length_append, List.length_singleton]; exact hs2) (by simp; omega)), Lib.hid hgr, Lib.hid (((HB1 _ _ _).1.alloc _).grown hgrow (hne _ (Nat.le_refl _))), Lib.hid (((HB1 _ _ _).2.1.alloc _).grown hgrow (hne _ (by omega))), Lib.hid (((HB1 _ _ _).2.2.alloc _).grown hgrow (hne _ (by omega)))⟩
      clear HOW hown' hgrow hnil hblk hb4 hne hgr hs2
      clear hbel HB1
      rintro W ⟨HK, HG, HBa, HBb, HBc⟩
      have HK2 : Hid (StrsIn B W (.slice q1 ks2.length d1) (ks2.map K.s)) := Lib.hid (OwnNd.keys_in (World.ownsRow.kept H2.out.1 HG.out HS.out.symm) H2.out.2.2.2.2.1)
      have HR1 : Hid (IntsIn B W (.slice p2 rs1.length c2) rs1) := Lib.hid (OwnI.inn (World.ownsRow.kept H1.out.2.1 HG.out (own_apart H1.out.2.1 H1.out.1 (by decide))) (by omega))
      have HR2 : Hid (IntsIn B W (.slice q2 rs2.length d2) rs2) := Lib.hid (OwnI.inn (World.ownsRow.kept H2.out.2.1 HG.out (own_apart H2.out.2.1 H1.out.1 (by decide))) (by omega))
      have HC1 : Hid (IntsIn B W (.slice p3 cs1.length c3) cs1) := Lib.hid (OwnI.inn (World.ownsRow.kept H1.out.2.2.1 HG.out (own_apart H1.out.2.2.1 H1.out.1 (by decide))) (by omega))
      have HC2 : Hid (IntsIn B W (.slice q3 cs2.length d3) cs2) := Lib.hid (OwnI.inn (World.ownsRow.kept H2.out.2.2.1 HG.out (own_apart H2.out.2.2.1 H1.out.1 (by decide))) (by omega))
      have HLK : Hid (((ks1 ++ [b]).map K.s).length = ks1.length + 1) := Lib.hid (by simp)
      have HLK2 : Hid ((ks2.map K.s).length = ks2.length) := Lib.hid (by simp)
      have HSZ : Hid (w.heap.size ≤ W.heap.size) := Lib.hid HG.out.size
      have hle1 : ks1.length + 1 + ks2.length ≤ 1000000 := by omega
      have hle2 : rs1.length + rs2.length ≤ 1000000 := by omega
      have hle3 : cs1.length + cs2.length ≤ 1000000 := by omega
      obtain ⟨N1, hN1⟩ : ∃ N, ((ks1 ++ [b]).map K.s ++ ks2.map K.s).length = N := ⟨_, rfl⟩
      obtain ⟨N2, hN2⟩ : ∃ N, (rs1 ++ rs2).length = N := ⟨_, rfl⟩
      obtain ⟨N3, hN3⟩ : ∃ N, (cs1 ++ cs2).length = N := ⟨_, rfl⟩
      have HN1 := Lib.hid hN1
      have HN2 := Lib.hid hN2
      have HN3 := Lib.hid hN3
      clear hN1 hN2 hN3
      have a1 := HBa.out.cell 1
      have a2 := HBa.out.cell 2
      have a3 := HBa.out.cell 3
      have b0 := HBb.out.cell 0
      have b1 := HBb.out.cell 1
      have b2 := HBb.out.cell 2
      have g0 := HBc.out.cell 0
      have g1 := HBc.out.cell 1
      have g2 := HBc.out.cell 2
      have g3 := HBc.out.cell 3
      have z0 := HBc.out.free 0
      have z1 := HBc.out.free 1
      have z2 := HBc.out.free 2
      have z3 := HBc.out.free 3
      have la : Lt w.heap.size W.heap.size := HBa.out.lt
      have lb : Lt (w.heap.size + 1) W.heap.size := HBb.out.lt
      have lc : Lt (w.heap.size + 1 + 1) W.heap.size := HBc.out.lt
      simp only [List.getElem?_toArray, List.getElem?_cons_succ, List.getElem?_cons_zero] at a1 a2 a3 b0 b1 b2 g0 g1 g2 g3
      go_region_held3 (fun w9 => w9.cell? ⟨w.heap.size, 1, none⟩ = some (.slice p2 rs1.length c2) ∧ w9.cell? ⟨w.heap.size, 2, none⟩ = some (.slice p3 cs1.length c3) ∧ w9.cell? ⟨w.heap.size, 3, none⟩ = some (.bool false) ∧ w9.cell? ⟨w.heap.size + 1, 0, none⟩ = some (.slice q1 ks2.length d1) ∧ w9.cell? ⟨w.heap.size + 1, 1, none⟩ = some (.slice q2 rs2.length d2) ∧ w9.cell? ⟨w.heap.size + 1, 2, none⟩ = some (.slice q3 cs2.length d3)) (simp [go_sem, *]) (first
        | (go_at_call 82; refine (concatS_any B _ _ _ _ _ _ _ _ 51 ((ks1 ++ [b]).map K.s) (ks2.map K.s) (HK.out.below (by (repeat (first | exact Below.refl _ _ | assumption | refine nw_more ?_ _ _ | refine nw_alloc ?_ _ | refine nw_drew ?_ | refine nw_drewN ?_ _ | refine nw_set ?_ (by first | (simp; done) | (simp; omega) | omega) _)))) (HK2.out.below (by (repeat (first | exact Below.refl _ _ | assumption | refine nw_more ?_ _ _ | refine nw_alloc ?_ _ | refine nw_drew ?_ | refine nw_drewN ?_ _ | refine nw_set ?_ (by first | (simp; done) | (simp; omega) | omega) _)))) HLK.out HLK2.out (by (repeat (first | exact Blc.newAt _ _ _ (by simp; done) | refine Blc.alloc ?_ _ | refine Blc.mre ?_ _ _))) hle1).mono ?_; rintro e w' ⟨u1, rfl, hok, hb⟩; obtain ⟨n1, es1, rfl⟩ := below_more hb; clear hb; obtain ⟨kp, kc, e1⟩ := hok.form; rw [HN1.out] at e1; subst e1)
        | (have hz := hor; clear hz; go_at_call 83; refine (concatI_any B _ _ _ _ _ _ _ _ 23 cs1 cs2 (HC1.out.below (by (repeat (first | exact Below.refl _ _ | assumption | refine nw_more ?_ _ _ | refine nw_alloc ?_ _ | refine nw_drew ?_ | refine nw_drewN ?_ _ | refine nw_set ?_ (by first | (simp; done) | (simp; omega) | omega) _)))) (HC2.out.below (by (repeat (first | exact Below.refl _ _ | assumption | refine nw_more ?_ _ _ | refine nw_alloc ?_ _ | refine nw_drew ?_ | refine nw_drewN ?_ _ | refine nw_set ?_ (by first | (simp; done) | (simp; omega) | omega) _)))) rfl rfl (by (repeat (first | exact Blc.newAt _ _ _ (by simp; done) | refine Blc.alloc ?_ _ | refine Blc.mre ?_ _ _))) hle3).mono ?_; rintro e w' ⟨u3, rfl, hoc, hb⟩; obtain ⟨n3, es3, rfl⟩ := below_more hb; clear hb; obtain ⟨cp, cc, e1⟩ := hoc.slice; rw [HN3.out] at e1; subst e1)
        | (go_at_call 83; refine (concatI_any B _ _ _ _ _ _ _ _ 23 rs1 rs2 (HR1.out.below (by (repeat (first | exact Below.refl _ _ | assumption | refine nw_more ?_ _ _ | refine nw_alloc ?_ _ | refine nw_drew ?_ | refine nw_drewN ?_ _ | refine nw_set ?_ (by first | (simp; done) | (simp; omega) | omega) _)))) (HR2.out.below (by (repeat (first | exact Below.refl _ _ | assumption | refine nw_more ?_ _ _ | refine nw_alloc ?_ _ | refine nw_drew ?_ | refine nw_drewN ?_ _ | refine nw_set ?_ (by first | (simp; done) | (simp; omega) | omega) _)))) rfl rfl (by (repeat (first | exact Blc.newAt _ _ _ (by simp; done) | refine Blc.alloc ?_ _ | refine Blc.mre ?_ _ _))) hle2).mono ?_; rintro e w' ⟨u2, rfl, hor, hb⟩; obtain ⟨n2, es2, rfl⟩ := below_more hb; clear hb; obtain ⟨rp, rc, e1⟩ := hor.slice; rw [HN2.out] at e1; subst e1))
      all_goals
        go_wp2
        as_aux_lemma =>
        have hB4 := (((HBc.out.set 0 (.slice kp N1 kc)).set 1 (.slice rp N2 rc)).set 2 (.slice cp N3 cc)).set 3 (.bool false)
        have hS4 : ((((W.setCell ⟨w.heap.size + 1 + 1, 0, none⟩ (.slice kp N1 kc)).setCell ⟨w.heap.size + 1 + 1, 1, none⟩ (.slice rp N2 rc)).setCell ⟨w.heap.size + 1 + 1, 2, none⟩ (.slice cp N3 cc)).setCell ⟨w.heap.size + 1 + 1, 3, none⟩ (.bool false)).heap.size = W.heap.size := by simp
        have hL4 : Below w.heap.size W ((((W.setCell ⟨w.heap.size + 1 + 1, 0, none⟩ (.slice kp N1 kc)).setCell ⟨w.heap.size + 1 + 1, 1, none⟩ (.slice rp N2 rc)).setCell ⟨w.heap.size + 1 + 1, 2, none⟩ (.slice cp N3 cc)).setCell ⟨w.heap.size + 1 + 1, 3, none⟩ (.bool false)) := ((((Below.refl w.heap.size W).setCell (p := ⟨w.heap.size + 1 + 1, 0, none⟩) (show w.heap.size ≤ w.heap.size + 1 + 1 by omega) _).setCell (p := ⟨w.heap.size + 1 + 1, 1, none⟩) (show w.heap.size ≤ w.heap.size + 1 + 1 by omega) _).setCell (p := ⟨w.heap.size + 1 + 1, 2, none⟩) (show w.heap.size ≤ w.heap.size + 1 + 1 by omega) _).setCell (p := ⟨w.heap.size + 1 + 1, 3, none⟩) (show w.heap.size ≤ w.heap.size + 1 + 1 by omega) _
        generalize ((((W.setCell ⟨w.heap.size + 1 + 1, 0, none⟩ (.slice kp N1 kc)).setCell ⟨w.heap.size + 1 + 1, 1, none⟩ (.slice rp N2 rc)).setCell ⟨w.heap.size + 1 + 1, 2, none⟩ (.slice cp N3 cc)).setCell ⟨w.heap.size + 1 + 1, 3, none⟩ (.bool false)) = X0 at *
        have x0 := hB4.cell 0
        have x1 := hB4.cell 1
        have x2 := hB4.cell 2
        have x3 := hB4.cell 3
        have lx : Lt (w.heap.size + 1 + 1) X0.heap.size := hB4.lt
        simp only [List.setIfInBounds_toArray, List.set_cons_zero, List.set_cons_succ, List.getElem?_toArray, List.getElem?_cons_succ, List.getElem?_cons_zero] at x0 x1 x2 x3
        refine bodyPost_ret (v := .agg #[.slice kp N1 kc, .slice rp N2 rc, .slice cp N3 cc, .bool false]) (by simp [results, Tryz.results72, go_sem, x0, x1, x2, x3, lx]) rfl ?_
        have hsz := HSZ.out
        have f1 := fun F h => own_stays (c := W.heap.size) (F := F) hok h (by simp [go_sem]; try omega)
        have f2 := fun F h => own_stays (c := W.heap.size) (F := F) hor h (by simp [go_sem]; try omega)
        have f3 := fun F h => own_stays (c := W.heap.size) (F := F) hoc h (by simp [go_sem]; try omega)
        have g2 := sep_late hor ?u2 hoc
        case u2 => simp [go_sem]; try omega
        refine ⟨⟨.slice kp N1 kc, .slice rp N2 rc, .slice cp N3 cc, joinedP ⟨ks1, rs1, cs1, false⟩ b ⟨ks2, rs2, cs2, lf2⟩⟩, rfl, rfl, ⟨?_, ?_, ?_, g2, ?_, ?_, ?_⟩, gr_then HG.out (hL4.trans (Below.mono (B := X0.heap.size) (by (repeat (first | exact Below.refl _ _ | assumption | refine nw_more ?_ _ _ | refine nw_alloc ?_ _ | refine nw_drew ?_ | refine nw_drewN ?_ _ | refine nw_set ?_ (by first | (simp; done) | (simp; omega) | omega) _))) (by omega)))⟩
        · suffices h : OwnS w.heap.size _ (.slice kp N1 kc) ((ks1 ++ [b]).map K.s ++ ks2.map K.s) by simpa [joinedP] using h
          exact World.ownsRow.mono (f1 _ (by (repeat (first | (with_reducible refine st_both ?_ ?_ _ _; rotate_left; focus (simp [go_sem, hS4]; done)) | with_reducible refine st_drew ?_ | (with_reducible refine st_alloc2 ?_ ?_ _; rotate_left; focus (simp [go_sem, hS4]; done)) | with_reducible refine st_grow ?_ _ _ | with_reducible refine st_al ?_ _ | (refine st_bot ?_ ?_; (focus (simp; done)); (focus (simp [hS4]; done))))))) hsz
        · exact World.ownsRow.mono (f2 _ (by (repeat (first | (with_reducible refine st_both ?_ ?_ _ _; rotate_left; focus (simp [go_sem, hS4]; done)) | with_reducible refine st_drew ?_ | (with_reducible refine st_alloc2 ?_ ?_ _; rotate_left; focus (simp [go_sem, hS4]; done)) | with_reducible refine st_grow ?_ _ _ | with_reducible refine st_al ?_ _ | (refine st_bot ?_ ?_; (focus (simp; done)); (focus (simp [hS4]; done))))))) hsz
        · exact World.ownsRow.mono (f3 _ (by (repeat (first | (with_reducible refine st_both ?_ ?_ _ _; rotate_left; focus (simp [go_sem, hS4]; done)) | with_reducible refine st_drew ?_ | (with_reducible refine st_alloc2 ?_ ?_ _; rotate_left; focus (simp [go_sem, hS4]; done)) | with_reducible refine st_grow ?_ _ _ | with_reducible refine st_al ?_ _ | (refine st_bot ?_ ?_; (focus (simp; done)); (focus (simp [hS4]; done))))))) hsz
        · simp [joinedP]; omega
        · simp [joinedP]; omega
        · simp [joinedP]; omega
end Go.Proofs.YtaophiknldkfdaaGreatDoor
