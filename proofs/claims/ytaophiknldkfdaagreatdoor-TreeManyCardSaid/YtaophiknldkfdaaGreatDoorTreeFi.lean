/- Contracts of package tree: Cut. -/
import Derived.Test.YtaophiknldkfdaaGreatDoorTreeAd
import Derived.Test.YtaophiknldkfdaaGreatDoorTreeUp2
import Derived.Test.YtaophiknldkfdaaGreatDoorTreeMi
namespace Go.Proofs.YtaophiknldkfdaaGreatDoor
open Go.RowKit

theorem cut_parts {α : Type} {K : Ks α} {t t' : Tr α} {k : α} (h : cutP K t k = some t') : ∃ path leaf x S, leafP K t k = some (path, leaf, x) ∧ isB K k x.keys = true ∧ joinUpP ⟨t.nodes.set leaf ⟨delAt x.keys (posB K k x.keys), delAt x.rows (posB K k x.keys), x.kids, x.leaf⟩, t.root.toNat, t.free, false⟩ path = some S ∧ t' = S.done := by
  unfold cutP at h
  split at h
  · cases h
  · rename_i path leaf x hl
    split at h
    · rename_i hg
      split at h
      · cases h
      · rename_i S hs
        exact ⟨path, leaf, x, S, hl, hg, hs, (Option.some.inj h).symm⟩
    · cases h
theorem pos_lt_of {α : Type} {K : Ks α} {k : α} {l : List α} (h : isB K k l = true) : posB K k l < l.length := by
  unfold isB at h
  split at h
  · rename_i x hx
    exact (List.getElem?_eq_some_iff.1 hx).1
  · cases h
theorem out_facts0 {α : Type} {K : Ks α} {G tb n : Nat} {w W w4 X : World} {v u a b c : Value} {P : List (Nv α)} {F : List Int} (hin : TreeIn K G w4 v u P F) (hG : n + 2 ≤ G) (htb : n + 2 ≤ tb) (hw : n ≤ w.heap.size) (hB : Below n w W) (hS : StepT G tb W w4) (hX : X = ((w4.setCell ⟨n + 1, 0, none⟩ a).setCell ⟨n + 1, 1, none⟩ b).setCell ⟨n + 1, 2, none⟩ c) : TreeIn K n X v u P F ∧ Below n w X := by
  have h1 : n + 1 < G := by omega
  have s1 : Stays G w4 X := by
    rw [hX]
    exact ((stays_step h1).trans (stays_step h1)).trans (stays_step h1)
  have b1 : Below n w4 X := by
    rw [hX]
    exact (((Below.refl n w4).setCell (p := ⟨n + 1, 0, none⟩) (Nat.le_succ n) _).setCell (p := ⟨n + 1, 1, none⟩) (Nat.le_succ n) _).setCell (p := ⟨n + 1, 2, none⟩) (Nat.le_succ n) _
  have b0 := hB.trans (hS.to_below (n := n) (by omega) (by omega) (Nat.le_trans hw hB.size))
  exact ⟨(hin.stays s1).mono (by omega), b0.trans b1⟩

set_option maxRecDepth 100000 in
set_option maxHeartbeats 4000000 in
theorem cut_any {α : Type} (K : Ks α) (B : Nat) (w : World) (v u : Value) (r : Int) (P : List (Nv α)) (F : List Int) (k : α) (t' : Tr α) (h : TreeIn K B w v u P F) (hls : ∀ x ∈ P, x.n.keys.length ≤ 500 ∧ x.n.rows.length ≤ 500 ∧ x.n.kids.length ≤ 500) (hpl : P.length ≤ 500) (_hF : F.length ≤ 500) (hF2 : t'.free.length ≤ 500) (ha : cutP K ⟨ndsOf P, r, F⟩ k = some t') :
    Calls Tryz.prog 16 #[.agg #[v, .int .i64 r, u], .string (K.s k)] w (TreeOut K w t') := by
  obtain ⟨path, leaf, xn, S, hleaf, his, hsp, rfl⟩ := cut_parts ha
  obtain ⟨hmay, hok, hr0, hway, hxn, hxl, hxr, hrise⟩ := leaf_parts hleaf
  obtain ⟨n0, rfl⟩ : ∃ n0 : Nat, r = n0 := ⟨r.toNat, by dsimp only at hr0; omega⟩
  rw [Int.toNat_natCast] at hway hsp
  obtain ⟨x, hx, rfl⟩ := nds_some rfl hxn
  dsimp only at *
  have hpos := pos_lt_of his
  obtain ⟨fp, fc, rfl, -⟩ := h.2.slice
  have hleafl : leaf < P.length := (List.getElem?_eq_some_iff.1 hx).1
  have hlat : P.length ≤ 500 := hpl
  obtain ⟨b, off, cap, kp1, kc1, rp1, rc1, cp1, cc1, rfl, hlk, hbl, e1, e2, e3, hc0, -, -, -, hnode⟩ := nodes_get h.1 hx
  have HIN := Lib.hid h
  have HLS := Lib.hid hls
  have HLS2 := Lib.hid hls
  have HF2 := Lib.hid hF2
  have HPLEN : Hid (path.length ≤ 1000) := Lib.hid (by have := way_len hway; omega)
  have HK1 : Hid (KeysIn K B w (.slice kp1 x.n.keys.length kc1) x.n.keys) := Lib.hid (by rw [← e1]; exact hnode.1)
  have HMAY := Lib.hid hmay
  have HKE : Hid (keyE (K.ok k) = 0) := Lib.hid (by rw [hok]; rfl)
  have HIS := Lib.hid his
  have HWAY := Lib.hid hway
  have HRI := Lib.hid hrise
  have HSP := Lib.hid hsp
  have HXR := Lib.hid hxr
  have HXX := Lib.hid hx
  have k1 : (leaf : Int) < (P.length : Int) := by omega
  have k0 : (0 : Int) ≤ (leaf : Int) := by omega
  clear h hls hF2 hmay hok hr0 hway hxn hxl hxr hrise his hsp hnode e1 e2 e3 hx ha hleaf
  go_enter Tryz.func16, Tryz.ntmps16
  go_upto_region 8 with (first
    | (go_at_call 21; refine (mayBe_any K B _ _ _ _ P F (HIN.out.below (by (repeat (first | exact Below.refl _ _ | assumption | refine nw_more ?_ _ _ | refine nw_alloc ?_ _ | refine nw_drew ?_ | refine nw_drewN ?_ _ | refine nw_set ?_ (by first | (simp; done) | (simp; omega) | omega) _))))).mono ?_; rw [HMAY.out]; (rintro e w' ⟨rfl, hb⟩; obtain ⟨n, es, rfl⟩ := below_more hb; clear hb))
    | (go_at_call 22; refine (key_any K k _).mono ?_; rw [HKE.out]; rintro e w' ⟨rfl, rfl⟩)
    | (go_at_call 24; refine (way_any K B _ _ _ n0 P F k 100 leaf path (HIN.out.1.below (by (repeat (first | exact Below.refl _ _ | assumption | refine nw_more ?_ _ _ | refine nw_alloc ?_ _ | refine nw_drew ?_ | refine nw_drewN ?_ _ | refine nw_set ?_ (by first | (simp; done) | (simp; omega) | omega) _)))) (by decide) HWAY.out).mono ?_; rintro e w' ⟨pv, rfl, hop, hb⟩; obtain ⟨n1, es1, rfl⟩ := below_more hb; clear hb; obtain ⟨pp, pc, rfl⟩ := hop.form)
    | (go_at_call 25; refine (search_any K B _ _ x.n.keys k (HK1.out.below (by (repeat (first | exact Below.refl _ _ | assumption | refine nw_more ?_ _ _ | refine nw_alloc ?_ _ | refine nw_drew ?_ | refine nw_drewN ?_ _ | refine nw_set ?_ (by first | (simp; done) | (simp; omega) | omega) _)))) HRI.out).mono ?_; rw [HIS.out]; rintro e w' ⟨rfl, rfl⟩)
    | (go_at_call 26; refine (copied_any K B _ _ _ _ P F (HIN.out.1.below (by (repeat (first | exact Below.refl _ _ | assumption | refine nw_more ?_ _ _ | refine nw_alloc ?_ _ | refine nw_drew ?_ | refine nw_drewN ?_ _ | refine nw_set ?_ (by first | (simp; done) | (simp; omega) | omega) _)))) (HIN.out.2.below (by (repeat (first | exact Below.refl _ _ | assumption | refine nw_more ?_ _ _ | refine nw_alloc ?_ _ | refine nw_drew ?_ | refine nw_drewN ?_ _ | refine nw_set ?_ (by first | (simp; done) | (simp; omega) | omega) _)))) (by omega) (fun x hx => by have := HLS.out x hx; omega)).mono ?_; rintro e w' ⟨nv, fv, Q, rfl, hQ, hnQ, hfQ, hsQ, hb⟩; obtain ⟨n2, es2, rfl⟩ := below_more hb; clear hb; obtain ⟨np, nc, hnv⟩ := hQ.form; obtain ⟨fp2, fc2, hfv2⟩ := hfQ.slice; subst hnv hfv2))
  refine wp_cut (fun W => ∃ G : Nat, Hid (w.heap.size + 2 ≤ G ∧ G ≤ w.heap.size + 1 + 1 + es.size + es1.size + es2.size ∧ G ≤ W.heap.size) ∧ Hid (OwnT K G W (.slice np Q.length nc) (.slice fp2 F.length fc2) Q F) ∧ Hid (Blc W (w.heap.size + 1 + 1 + es.size + es1.size + es2.size) 25 #[.slice np Q.length nc, .int .i64 n0, .slice fp2 F.length fc2]) ∧ Hid (OwnPl w.heap.size W (.slice pp path.length pc) path) ∧ Hid (Below w.heap.size w W) ∧ Hid (Blc W (w.heap.size + 1) 25 #[.slice none 0 0, .int .i64 0, .slice none 0 0])) ?_ ?_
  · refine ⟨_, Lib.hid ⟨?_, ?_, ?_⟩, Lib.hid ⟨hQ.below (by (repeat (first | exact Below.refl _ _ | assumption | refine nw_more ?_ _ _ | refine nw_alloc ?_ _ | refine nw_drew ?_ | refine nw_drewN ?_ _ | refine nw_set ?_ (by first | (simp; done) | (simp; omega) | omega) _))), own_below hfQ (by (repeat (first | exact Below.refl _ _ | assumption | refine nw_more ?_ _ _ | refine nw_alloc ?_ _ | refine nw_drew ?_ | refine nw_drewN ?_ _ | refine nw_set ?_ (by first | (simp; done) | (simp; omega) | omega) _))), hsQ⟩, Lib.hid (Blc.newAt _ _ _ (by simp)), Lib.hid (World.ownsRow.mono (own_below hop (by (repeat (first | exact Below.refl _ _ | assumption | refine nw_more ?_ _ _ | refine nw_alloc ?_ _ | refine nw_drew ?_ | refine nw_drewN ?_ _ | refine nw_set ?_ (by first | (simp; done) | (simp; omega) | omega) _)))) (by simp; omega)), Lib.hid (by (repeat (first | exact Below.refl _ _ | assumption | refine nw_more ?_ _ _ | refine nw_alloc ?_ _ | refine nw_drew ?_ | refine nw_drewN ?_ _ | refine nw_set ?_ (by first | (simp; done) | (simp; omega) | omega) _))), Lib.hid (((((Blc.newAt _ _ _ (by simp)).mre _ _).mre _ _).mre _ _).alloc _)⟩
    · first | (simp; done) | (simp; omega)
    · first | (simp; done) | (simp; omega)
    · first | (simp; done) | (simp; omega)
  clear hQ hfQ hsQ hop hc0 hbl HK1 HMAY HKE HIS HWAY HRI HIN HLS
  have htw : w.heap.size + 2 ≤ w.heap.size + 1 + 1 + es.size + es1.size + es2.size := by omega
  generalize w.heap.size + 1 + 1 + es.size + es1.size + es2.size = tb at *
  rintro W ⟨G, HG, HO, HT, HPL, HBL, HRB⟩
  have hql : Q.length = P.length := by have := congrArg List.length hnQ; simpa [ndsOf] using this
  obtain ⟨x2, hx2, hx2n⟩ := nds_some hnQ (show (ndsOf P)[leaf]? = some x.n by rw [ndsOf, List.getElem?_map, HXX.out]; rfl)
  obtain ⟨nb, nc', enp, -, -, -, hnbl⟩ := own_pos HO.out.ns.row (by omega)
  obtain ⟨rfl, rfl⟩ : np = some ⟨nb, 0, none⟩ ∧ nc = nc' := by simpa using enp
  have hx2o := HO.out.ns.each x2 (List.mem_of_getElem? hx2)
  have t0 := HT.out.cell 0
  have htl : Lt tb W.heap.size := HT.out.lt
  simp only [List.getElem?_toArray, List.getElem?_cons_zero] at t0
  have k2 : (leaf : Int) < (Q.length : Int) := by omega
  have HPUT : Hid (Calls Tryz.prog 30 #[.pointer (some ⟨nb, leaf * 4, none⟩), .int .i64 (posB K k x.n.keys)] W fun e w' => e = .returned (.tuple #[]) ∧ Hid (TreeS K G tb w' ⟨(ndsOf P).set leaf ⟨delAt x.n.keys (posB K k x.n.keys), delAt x.n.rows (posB K k x.n.keys), x.n.kids, x.n.leaf⟩, n0, F, false⟩) ∧ Hid (Step G W w')) := Lib.hid (by
    have hl1 : x.n.keys.length ≤ 500 := by have := (HLS2.out x (List.mem_of_getElem? HXX.out)).1; omega
    have hl2 : x.n.rows.length ≤ 500 := by have := (HLS2.out x (List.mem_of_getElem? HXX.out)).2.1; omega
    refine (take_any K G W nb nc _ Q F leaf (posB K k x.n.keys) x2 HO.out HG.out.2.2 hx2 (by rw [hx2n]; exact hpos) (by rw [hx2n, HXR.out]; exact hpos)).mono ?_
    rintro e w' ⟨Q2, rfl, hO2, hnd2, hst2⟩
    refine ⟨rfl, Lib.hid ⟨Q2, _, _, _, ?_, hO2, ⟨fun _ => rfl, fun h => (by cases h), _, _, _, rfl⟩, hst2.blc HT.out (by decide) (by decide) (by decide)⟩, Lib.hid hst2⟩
    rw [hnd2, hnQ, hx2n]
    rfl)
  clear hx2o enp hx2 hx2n
  go_upto_region 9 with (first | (go_at_call 30; refine HPUT.out.mono ?_; rintro e w3 ⟨rfl, HTS3, HST3⟩))
  clear HPUT
  have HUP : Hid (Calls Tryz.prog 31 #[.pointer (some ⟨tb, 0, none⟩), .slice pp path.length pc] w3 fun e w' => e = .returned (.tuple #[]) ∧ Hid (TreeS K G tb w' S ∧ StepT G tb w3 w')) := Lib.hid (by
    have hp3 : OwnPl w.heap.size w3 (.slice pp path.length pc) path := HPL.out.step (fun b cs hb => HST3.out.blc hb (by decide) (by decide) (by decide))
    refine (joinUp_any K G w.heap.size tb w3 _ S _ path HTS3.out (Nat.le_trans HG.out.2.2 HST3.out.1.size) hp3 HPLEN.out HSP.out).mono ?_
    rintro e w' ⟨rfl, h1, h2⟩
    exact ⟨rfl, Lib.hid ⟨h1, h2⟩⟩)
  go_upto_region 10 with (first | (go_at_call 31; refine HUP.out.mono ?_; rintro e w4 ⟨rfl, HTS4⟩))
  clear HUP
  have hsf : S.free.length ≤ 1000000 := by
    have := HF2.out
    unfold St.done at this
    cases ha : S.adv <;> rw [ha] at this <;> simp at this <;> omega
  obtain ⟨v4, u4, P4, htb4, hin4, hnd4⟩ := done_in HTS4.out.1 hsf
  obtain ⟨vp, vc, rfl, -⟩ := hin4.1.slice
  obtain ⟨up, uc, rfl, -⟩ := hin4.2.slice
  have HS34 : Hid (StepT G tb W w4) := Lib.hid ((HST3.out.toT tb).trans HTS4.out.2)
  have hrb4 := HS34.out.blc _ _ _ HRB.out (by omega) (by decide) (by decide) (by decide)
  have c0 := htb4.cell 0
  have c1 := htb4.cell 1
  have c2 := htb4.cell 2
  have r0 := hrb4.cell 0
  have r1 := hrb4.cell 1
  have r2 := hrb4.cell 2
  have z0 := hrb4.free 0
  have z1 := hrb4.free 1
  have z2 := hrb4.free 2
  have hl4 : Lt tb w4.heap.size := htb4.lt
  have hr4 : Lt (w.heap.size + 1) w4.heap.size := hrb4.lt
  simp only [List.getElem?_toArray, List.getElem?_cons_succ, List.getElem?_cons_zero] at c0 c1 c2 r0 r1 r2
  go_wp2_with fail
  refine bodyPost_ret (v := .tuple #[.agg #[.slice vp P4.length vc, .int .i64 S.root, .slice up S.done.free.length uc], .int .i64 0]) (by simp [results, Tryz.results16, go_sem, r0, r1, r2]) rfl ?_
  obtain ⟨f1, f2⟩ := out_facts0 hin4 HG.out.1 htw (Nat.le_refl _) HBL.out HS34.out rfl
  exact ⟨_, _, P4, rfl, f1, hnd4, f2⟩
end Go.Proofs.YtaophiknldkfdaaGreatDoor
/- Contracts of package tree: Find, Deep, Count. -/
namespace Go.Proofs.YtaophiknldkfdaaGreatDoor
open Go.RowKit

theorem find_parts {α : Type} {K : Ks α} {t : Tr α} {k : α} {v : Int} (h : findP K t k = some v) : ∃ path leaf x, leafP K t k = some (path, leaf, x) ∧ isB K k x.keys = true ∧ x.rows[posB K k x.keys]? = some v := by
  unfold findP at h
  split at h
  · cases h
  · rename_i path leaf x hl
    split at h
    · rename_i hg
      exact ⟨path, leaf, x, hl, hg, h⟩
    · cases h
set_option maxRecDepth 100000 in
set_option maxHeartbeats 4000000 in
theorem find_any {α : Type} (K : Ks α) (B : Nat) (w : World) (v u : Value) (r : Int) (P : List (Nv α)) (F : List Int) (k : α) (row : Int) (h : TreeIn K B w v u P F) (_hpl : P.length ≤ 500) (ha : findP K ⟨ndsOf P, r, F⟩ k = some row) :
    Calls Tryz.prog 15 #[.agg #[v, .int .i64 r, u], .string (K.s k)] w fun e w' => e = .returned (.tuple #[.int .i64 row, .int .i64 0]) ∧ Below w.heap.size w w' := by
  obtain ⟨path, leaf, xn, hleaf, his, hrow⟩ := find_parts ha
  obtain ⟨hmay, hok, hr0, hway, hxn, hxl, hxr, hrise⟩ := leaf_parts hleaf
  obtain ⟨n0, rfl⟩ : ∃ n0 : Nat, r = n0 := ⟨r.toNat, by dsimp only at hr0; omega⟩
  rw [Int.toNat_natCast] at hway
  obtain ⟨x, hx, rfl⟩ := nds_some rfl hxn
  dsimp only at *
  have hpos := pos_lt_of his
  obtain ⟨fp, fc, rfl, -⟩ := h.2.slice
  have hleafl : leaf < P.length := (List.getElem?_eq_some_iff.1 hx).1
  obtain ⟨b, off, cap, kp1, kc1, rp1, rc1, cp1, cc1, rfl, hlk, hbl, e1, e2, e3, hc0, hc1, -, -, hnode⟩ := nodes_get h.1 hx
  obtain ⟨rp2, rc2, er, -, hrat⟩ := hnode.2.1.at
  rw [e2] at er
  obtain ⟨rb, ro, rv0, erp, hrl, hrc, -, hrv⟩ := hrat (posB K k x.n.keys) (by omega)
  rw [hrow] at hrv
  obtain rfl := Option.some.inj hrv
  obtain ⟨rfl, rfl⟩ : rp1 = rp2 ∧ rc1 = rc2 := by simpa using er
  subst erp
  have HIN := Lib.hid h
  have HK1 : Hid (KeysIn K B w (.slice kp1 x.n.keys.length kc1) x.n.keys) := Lib.hid (by rw [← e1]; exact hnode.1)
  have HMAY := Lib.hid hmay
  have HKE : Hid (keyE (K.ok k) = 0) := Lib.hid (by rw [hok]; rfl)
  have HIS := Lib.hid his
  have HWAY := Lib.hid hway
  have HRI := Lib.hid hrise
  have k1 : (leaf : Int) < (P.length : Int) := by omega
  have k0 : (0 : Int) ≤ (leaf : Int) := by omega
  have k2 : ((posB K k x.n.keys : Nat) : Int) < (x.n.rows.length : Int) := by omega
  have k3 : (0 : Int) ≤ ((posB K k x.n.keys : Nat) : Int) := by omega
  clear h hmay hok hr0 hway hxn hxl hxr hrise his hnode e1 e2 e3 hx ha hleaf hrow hrat er
  go_enter Tryz.func15, Tryz.ntmps15
  go_wp2_with (first
    | (go_at_call 21; refine (mayBe_any K B _ _ _ _ P F (HIN.out.below (by (repeat (first | exact Below.refl _ _ | assumption | refine nw_more ?_ _ _ | refine nw_alloc ?_ _ | refine nw_drew ?_ | refine nw_drewN ?_ _ | refine nw_set ?_ (by first | (simp; done) | (simp; omega) | omega) _))))).mono ?_; rw [HMAY.out]; (rintro e w' ⟨rfl, hb⟩; obtain ⟨n, es, rfl⟩ := below_more hb; clear hb))
    | (go_at_call 22; refine (key_any K k _).mono ?_; rw [HKE.out]; rintro e w' ⟨rfl, rfl⟩)
    | (go_at_call 24; refine (way_any K B _ _ _ n0 P F k 100 leaf path (HIN.out.1.below (by (repeat (first | exact Below.refl _ _ | assumption | refine nw_more ?_ _ _ | refine nw_alloc ?_ _ | refine nw_drew ?_ | refine nw_drewN ?_ _ | refine nw_set ?_ (by first | (simp; done) | (simp; omega) | omega) _)))) (by decide) HWAY.out).mono ?_; rintro e w' ⟨pv, rfl, hop, hb⟩; obtain ⟨n1, es1, rfl⟩ := below_more hb; clear hb; obtain ⟨pp, pc, rfl⟩ := hop.form; clear hop)
    | (go_at_call 25; refine (search_any K B _ _ x.n.keys k (HK1.out.below (by (repeat (first | exact Below.refl _ _ | assumption | refine nw_more ?_ _ _ | refine nw_alloc ?_ _ | refine nw_drew ?_ | refine nw_drewN ?_ _ | refine nw_set ?_ (by first | (simp; done) | (simp; omega) | omega) _)))) HRI.out).mono ?_; rw [HIS.out]; rintro e w' ⟨rfl, rfl⟩))
  refine bodyPost_ret (v := .tuple #[.int .i64 row, .int .i64 0]) (by simp [results, Tryz.results15, go_sem]) rfl ?_
  exact ⟨rfl, by (repeat (first | exact Below.refl _ _ | assumption | refine nw_more ?_ _ _ | refine nw_alloc ?_ _ | refine nw_drew ?_ | refine nw_drewN ?_ _ | refine nw_set ?_ (by first | (simp; done) | (simp; omega) | omega) _))⟩
set_option maxRecDepth 100000 in
set_option maxHeartbeats 4000000 in
theorem deep_any {α : Type} (K : Ks α) (B : Nat) (w : World) (v u : Value) (r : Int) (P : List (Nv α)) (F : List Int) (k0 : α) (d : Nat) (h : TreeIn K B w v u P F) (hk0 : K.s k0 = { data := #[] }) (ha : deepP K ⟨ndsOf P, r, F⟩ k0 = some d) :
    Calls Tryz.prog 14 #[.agg #[v, .int .i64 r, u]] w fun e w' => e = .returned (.tuple #[.int .i64 d, .int .i64 0]) ∧ Below w.heap.size w w' := by
  obtain ⟨path, leaf, hmay, hr0, hway, hd⟩ : ∃ path leaf, mayT K ⟨ndsOf P, r, F⟩ = true ∧ 0 ≤ r ∧ wayO K ⟨ndsOf P, r, F⟩ k0 100 r.toNat = some (path, leaf) ∧ d = path.length + 1 := by
    unfold deepP at ha
    split at ha
    · rename_i hg
      simp only [Bool.and_eq_true, decide_eq_true_eq] at hg
      split at ha
      · cases ha
      · rename_i path leaf hw
        exact ⟨path, leaf, hg.1, hg.2, hw, (Option.some.inj ha).symm⟩
    · cases ha
  obtain ⟨n0, rfl⟩ : ∃ n0 : Nat, r = n0 := ⟨r.toNat, by omega⟩
  rw [Int.toNat_natCast] at hway
  have hpl := way_len hway
  obtain ⟨fp, fc, rfl, -⟩ := h.2.slice
  obtain ⟨np, nc, rfl, -⟩ := h.1.slice
  have HIN := Lib.hid h
  have HMAY := Lib.hid hmay
  have HWAY := Lib.hid hway
  have HK0 := Lib.hid hk0
  subst hd
  have hw1 : IntKind.i64.wrap ((path.length : Int) + 1) = (path.length : Int) + 1 := IntWalk.i64_in _ (by omega)
  clear h hmay hway hr0 ha hk0
  go_enter Tryz.func14, Tryz.ntmps14
  go_wp2_with (first
    | (go_at_call 21; refine (mayBe_any K B _ _ _ _ P F (HIN.out.below (by (repeat (first | exact Below.refl _ _ | assumption | refine nw_more ?_ _ _ | refine nw_alloc ?_ _ | refine nw_drew ?_ | refine nw_drewN ?_ _ | refine nw_set ?_ (by first | (simp; done) | (simp; omega) | omega) _))))).mono ?_; rw [HMAY.out]; (rintro e w' ⟨rfl, hb⟩; obtain ⟨n, es, rfl⟩ := below_more hb; clear hb))
    | (go_at_call 24; rw [← HK0.out]; refine (way_any K B _ _ _ n0 P F k0 100 leaf path (HIN.out.1.below (by (repeat (first | exact Below.refl _ _ | assumption | refine nw_more ?_ _ _ | refine nw_alloc ?_ _ | refine nw_drew ?_ | refine nw_drewN ?_ _ | refine nw_set ?_ (by first | (simp; done) | (simp; omega) | omega) _)))) (by decide) HWAY.out).mono ?_; rintro e w' ⟨pv, rfl, hop, hb⟩; obtain ⟨n1, es1, rfl⟩ := below_more hb; clear hb; obtain ⟨pp, pc, rfl⟩ := hop.form; clear hop))
  refine bodyPost_ret (v := .tuple #[.int .i64 ((path.length : Int) + 1), .int .i64 0]) (by simp [results, Tryz.results14, go_sem]) rfl ?_
  exact ⟨rfl, by (repeat (first | exact Below.refl _ _ | assumption | refine nw_more ?_ _ _ | refine nw_alloc ?_ _ | refine nw_drew ?_ | refine nw_drewN ?_ _ | refine nw_set ?_ (by first | (simp; done) | (simp; omega) | omega) _))⟩
theorem nodes_sum {α : Type} (P : List (Nv α)) (k : Nat) (x : Nv α) (hx : P[k]? = some x) : ((P.take (k + 1)).map (fun y => y.n.rows.length)).sum = ((P.take k).map (fun y => y.n.rows.length)).sum + x.n.rows.length := by
  obtain ⟨hk, e⟩ := List.getElem?_eq_some_iff.1 hx
  rw [List.take_succ_eq_append_getElem hk, List.map_append, List.sum_append, e]
  simp
theorem sum_le {α : Type} (l : List (Nv α)) (h : ∀ x ∈ l, x.n.rows.length ≤ 500) : (l.map (fun y => y.n.rows.length)).sum ≤ l.length * 500 := by
  induction l with
  | nil => simp
  | cons a r ih =>
    have h1 := h a (List.mem_cons_self ..)
    have h2 := ih (fun x hx => h x (List.mem_cons_of_mem _ hx))
    simp only [List.map_cons, List.sum_cons, List.length_cons]
    omega
set_option maxRecDepth 100000 in
set_option maxHeartbeats 4000000 in
theorem count_any {α : Type} (K : Ks α) (B : Nat) (w : World) (v u : Value) (r : Int) (P : List (Nv α)) (F : List Int) (c : Nat) (h : TreeIn K B w v u P F) (hpl : P.length ≤ 500) (hls : ∀ x ∈ P, x.n.rows.length ≤ 500) (ha : countP K ⟨ndsOf P, r, F⟩ = some c) :
    Calls Tryz.prog 13 #[.agg #[v, .int .i64 r, u]] w fun e w' => e = .returned (.tuple #[.int .i64 c, .int .i64 0]) ∧ Below w.heap.size w w' := by
  obtain ⟨hmay, hc⟩ : mayT K ⟨ndsOf P, r, F⟩ = true ∧ ((P.map (fun y => y.n.rows.length)).sum) = c := by
    unfold countP at ha
    split at ha
    · rename_i hg
      exact ⟨hg, by have := Option.some.inj ha; simpa [ndsOf, List.map_map, Function.comp_def] using this⟩
    · cases ha
  obtain ⟨fp, fc, rfl, -⟩ := h.2.slice
  obtain ⟨np, nc, rfl, hple, hnc, hat⟩ := h.1.at
  have HIN := Lib.hid h
  have HMAY := Lib.hid hmay
  have HAT := Lib.hid hat
  have HLS := Lib.hid hls
  have HC := Lib.hid hc
  clear h hmay ha hat hls hc
  go_enter Tryz.func13, Tryz.ntmps13
  go_wp2_with (first | (go_at_call 21; refine (mayBe_any K B _ _ _ _ P F (HIN.out.below (by (repeat (first | exact Below.refl _ _ | assumption | refine nw_more ?_ _ _ | refine nw_alloc ?_ _ | refine nw_drew ?_ | refine nw_drewN ?_ _ | refine nw_set ?_ (by first | (simp; done) | (simp; omega) | omega) _))))).mono ?_; rw [HMAY.out]; (rintro e w' ⟨rfl, hb⟩; obtain ⟨n, es, rfl⟩ := below_more hb; clear hb)))
  have HB0 : Hid (Below w.heap.size w (more (w.alloc (Obj.cells #[.slice np P.length nc, .int .i64 r, .slice fp F.length fc] 25)) n es)) := Lib.hid (by (repeat (first | exact Below.refl _ _ | assumption | refine nw_more ?_ _ _ | refine nw_alloc ?_ _ | refine nw_drew ?_ | refine nw_drewN ?_ _ | refine nw_set ?_ (by first | (simp; done) | (simp; omega) | omega) _)))
  go_loopg [4, 13] (P.length + 1) (fun g s4 s13 wr => ∃ (k c2 : Nat), k ≤ P.length ∧ g + k = P.length + 1 ∧ s13 = .int .i64 k ∧ s4 = .int .i64 c2 ∧ Hid (((P.take k).map (fun y => y.n.rows.length)).sum = c2) ∧ Hid (Below w.heap.size w wr))
  case atStart => exact ⟨0, 0, by omega, by omega, rfl, rfl, Lib.hid (by simp), HB0⟩
  case round =>
    obtain ⟨k, c2, hk, hgk, rfl, rfl, HS, HB⟩ := hrel
    by_cases hlt : k < P.length
    · obtain ⟨b, off, x, rfl, hb, q0, q1, q2, q3, hno, hx⟩ := HAT.out k hlt
      obtain ⟨p1, c1, e1, -⟩ := hno.1.slice
      obtain ⟨p2, c2', e2, -⟩ := hno.2.1.slice
      obtain ⟨p3, c3, e3, -⟩ := hno.2.2.slice
      rw [e1] at q0
      rw [e2] at q1
      rw [e3] at q2
      have a0 := (HB.out.cell (p := ⟨b, off + k * 4, none⟩) hb).trans q0
      have a1 := (HB.out.cell (p := ⟨b, off + k * 4 + 1, none⟩) hb).trans q1
      have a2 := (HB.out.cell (p := ⟨b, off + k * 4 + 2, none⟩) hb).trans q2
      have a3 := (HB.out.cell (p := ⟨b, off + k * 4 + 3, none⟩) hb).trans q3
      have hbl : Lt b wr.heap.size := Nat.lt_of_lt_of_le hb HB.out.size
      have HX := Lib.hid hx
      have hsm : c2 + x.n.rows.length ≤ 1000000 := by
        have h1 := HLS.out x (List.mem_of_getElem? hx)
        have h2 := sum_le (P.take k) (fun y hy => HLS.out y (List.mem_of_mem_take hy))
        rw [HS.out, List.length_take] at h2
        omega
      have hlt2 : (k : Int) < (P.length : Int) := by omega
      have k0 : (0 : Int) ≤ (k : Int) := by omega
      have hw1 : IntKind.i64.wrap ((k : Int) + 1) = (k : Int) + 1 := IntWalk.i64_in _ (by omega)
      have hw2 : IntKind.i64.wrap ((c2 : Int) + (x.n.rows.length : Int)) = (c2 : Int) + (x.n.rows.length : Int) := IntWalk.i64_in _ (by omega)
      clear hno hx q0 q1 q2 q3 e1 e2 e3
      go_wp2
      go_roundg (P.length - k)
      case measure => omega
      case rel => exact ⟨k + 1, c2 + x.n.rows.length, by omega, by omega, by go_num, by go_num, Lib.hid (by rw [nodes_sum P k x HX.out, HS.out]), Lib.hid (HB.out.trans (Below.mono (B := wr.heap.size) (by (repeat (first | exact Below.refl _ _ | assumption | refine nw_more ?_ _ _ | refine nw_alloc ?_ _ | refine nw_drew ?_ | refine nw_drewN ?_ _ | refine nw_set ?_ (by first | (simp; done) | (simp; omega) | omega) _))) HB.out.size))⟩
    · obtain rfl : k = P.length := by omega
      have hcc : c2 = c := by
        have := HS.out
        rw [List.take_length] at this
        rw [← this, HC.out]
      subst hcc
      go_wp2
      refine bodyPost_ret (v := .tuple #[.int .i64 c2, .int .i64 0]) (by simp [results, Tryz.results13, go_sem]) rfl ?_
      exact ⟨rfl, HB.out⟩
end Go.Proofs.YtaophiknldkfdaaGreatDoor
