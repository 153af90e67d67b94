/- Contracts of package tree: Add. -/
import Derived.Test.YtaophiknldkfdaaGreatDoorTreeK
import Derived.Test.YtaophiknldkfdaaGreatDoorTreeI
import Derived.Test.YtaophiknldkfdaaGreatDoorTreeUp
namespace Go.Proofs.YtaophiknldkfdaaGreatDoor
open Go.RowKit

theorem leaf_parts {α : Type} {K : Ks α} {t : Tr α} {k : α} {path : List (Nat × Nat)} {leaf : Nat} {x : Nd α} (h : leafP K t k = some (path, leaf, x)) : mayT K t = true ∧ K.ok k = true ∧ 0 ≤ t.root ∧ wayO K t k 100 t.root.toNat = some (path, leaf) ∧ t.nodes[leaf]? = some x ∧ x.leaf = true ∧ x.rows.length = x.keys.length ∧ riseB K x.keys = true := by
  unfold leafP at h
  split at h
  · rename_i hg
    simp only [Bool.and_eq_true, decide_eq_true_eq] at hg
    split at h
    · cases h
    · rename_i path' leaf' hw
      split at h
      · cases h
      · rename_i x' hx
        split at h
        · rename_i hc
          simp only [Bool.and_eq_true, decide_eq_true_eq] at hc
          simp only [Option.some.injEq, Prod.mk.injEq] at h
          obtain ⟨rfl, rfl, rfl⟩ := h
          exact ⟨hg.1.1, hg.1.2, hg.2, hw, hx, hc.1.1, hc.1.2, hc.2⟩
        · cases h
  · cases h
theorem add_parts {α : Type} {K : Ks α} {t t' : Tr α} {k : α} {row : Int} (h : addP K t k row = some t') : ∃ path leaf x S, leafP K t k = some (path, leaf, x) ∧ rowB row = true ∧ isB K k x.keys = false ∧ splitUpP ⟨t.nodes.set leaf ⟨insAt x.keys (posB K k x.keys) k, insAt x.rows (posB K k x.keys) row, x.kids, x.leaf⟩, t.root.toNat, t.free, false⟩ path = some S ∧ S.nodes.length ≤ 200 ∧ t' = S.done := by
  unfold addP at h
  split at h
  · cases h
  · rename_i path leaf x hl
    split at h
    · rename_i hg
      simp only [Bool.and_eq_true, Bool.not_eq_true'] at hg
      split at h
      · cases h
      · rename_i S hs
        split at h
        · rename_i hn
          exact ⟨path, leaf, x, S, hl, hg.1, hg.2, hs, hn, (Option.some.inj h).symm⟩
        · cases h
    · cases h
theorem stays_step {B : Nat} {W : World} {b i : Nat} {u : Value} (hb : b < B) : Stays B W (W.setCell ⟨b, i, none⟩ u) := Stays.set (a := ⟨b, i, none⟩) hb u
theorem OwnPl.step {Bp : Nat} {w w' : World} {v : Value} {l : List (Nat × Nat)} (h : OwnPl Bp w v l) (hs : ∀ (b : Nat) (cs : Array Value), Blc w b 82 cs → Blc w' b 82 cs) : OwnPl Bp w' v l := by
  rcases h.2 with ⟨rfl, e⟩ | ⟨g, c, cur, rfl, hb, hg, h5⟩
  · exact ⟨h.1, .inl ⟨rfl, e⟩⟩
  · exact ⟨h.1, .inr ⟨g, c, cur, rfl, hb, hs g cur hg, h5⟩⟩
theorem OwnPl.form {Bp : Nat} {w : World} {v : Value} {l : List (Nat × Nat)} (h : OwnPl Bp w v l) : ∃ pp pc, v = .slice pp l.length pc := by
  rcases h.2 with ⟨rfl, e⟩ | ⟨g, c, cur, rfl, -⟩
  · exact ⟨none, 0, by rw [e]⟩
  · exact ⟨_, _, rfl⟩
theorem OwnNs.form {α : Type} {K : Ks α} {B : Nat} {w : World} {v : Value} {P : List (Nv α)} (h : OwnNs K B w v P) : ∃ np nc, v = .slice np P.length nc := by
  rcases h.row.2 with ⟨rfl, e⟩ | ⟨g, c, cur, rfl, -⟩
  · exact ⟨none, 0, by rw [e]⟩
  · exact ⟨_, _, rfl⟩
theorem StepT.to_below {B tb n : Nat} {w w' : World} (h : StepT B tb w w') (hB : n ≤ B) (ht : n ≤ tb) (hw : n ≤ w.heap.size) : Below n w w' :=
  ⟨h.os, h.tape, h.output, h.size, fun k hk => h.old k (by omega) (by omega) (by omega)⟩
/-- What is told of a tree that has been changed. -/
theorem done_in {α : Type} {K : Ks α} {G tb : Nat} {W : World} {S : St α} (h : TreeS K G tb W S) (hf : S.free.length ≤ 1000000) : ∃ (v u : Value) (P : List (Nv α)), Blc W tb 25 #[v, .int .i64 S.root, u] ∧ TreeIn K G W v u P S.done.free ∧ ndsOf P = S.nodes := by
  obtain ⟨P, v, fv0, fv, hnd, hot, hfv, htb⟩ := h
  refine ⟨v, fv, P, htb, ⟨hot.ns.inn, ?_⟩, hnd⟩
  unfold St.done
  cases ha : S.adv with
  | false =>
    obtain rfl := hfv.same ha
    exact hot.fr.inn hf
  | true => exact hfv.adv ha W hot.fr

/-- A tree is told, and no error. -/
def TreeOut {α : Type} (K : Ks α) (w : World) (t' : Tr α) (e : Ending) (w' : World) : Prop :=
  ∃ (v' u' : Value) (P' : List (Nv α)), e = .returned (.tuple #[.agg #[v', .int .i64 t'.root, u'], .int .i64 0]) ∧ TreeIn K w.heap.size w' v' u' P' t'.free ∧ ndsOf P' = t'.nodes ∧ Below w.heap.size w w'
theorem out_facts {α : Type} {K : Ks α} {G tb n : Nat} {w W w4 X : World} {v u a b c : Value} {P : List (Nv α)} {F : List Int} (hin : TreeIn K G w4 v u P F) (hG : n + 2 ≤ G) (htb : n + 2 ≤ tb) (hw : n ≤ w.heap.size) (hB : Below n w W) (hS : StepT G tb W w4) (hX : X = ((w4.setCell ⟨n + 1, 0, none⟩ a).setCell ⟨n + 1, 1, none⟩ b).setCell ⟨n + 1, 2, none⟩ c) (q : Nat) (es : Array Obj) : TreeIn K n (more X q es) v u P F ∧ Below n w (more X q es) := by
  have h1 : n + 1 < G := by omega
  have s1 : Stays G w4 X := by
    rw [hX]
    exact ((stays_step h1).trans (stays_step h1)).trans (stays_step h1)
  have b1 : Below n w4 X := by
    rw [hX]
    exact (((Below.refl n w4).setCell (p := ⟨n + 1, 0, none⟩) (Nat.le_succ n) _).setCell (p := ⟨n + 1, 1, none⟩) (Nat.le_succ n) _).setCell (p := ⟨n + 1, 2, none⟩) (Nat.le_succ n) _
  have b2 : Below X.heap.size X (more X q es) := nw_more (Below.refl _ _) _ _
  have b0 := hB.trans (hS.to_below (n := n) (by omega) (by omega) (Nat.le_trans hw hB.size))
  have b3 := b0.trans b1
  exact ⟨((hin.stays s1).stays (Stays.of b2)).mono (by omega), b3.trans (b2.mono (Nat.le_trans hw b3.size))⟩

set_option maxRecDepth 100000 in
set_option maxHeartbeats 4000000 in
theorem add_any {α : Type} (K : Ks α) (B : Nat) (w : World) (v u : Value) (r : Int) (P : List (Nv α)) (F : List Int) (k : α) (row : Int) (t' : Tr α) (h : TreeIn K B w v u P F) (hls : ∀ x ∈ P, x.n.keys.length ≤ 500 ∧ x.n.rows.length ≤ 500 ∧ x.n.kids.length ≤ 500) (hpl : P.length ≤ 500) (_hF : F.length ≤ 500) (hF2 : t'.free.length ≤ 500) (ha : addP K ⟨ndsOf P, r, F⟩ k row = some t') :
    Calls Tryz.prog 10 #[.agg #[v, .int .i64 r, u], .string (K.s k), .int .i64 row] w (TreeOut K w t') := by
  obtain ⟨path, leaf, xn, S, hleaf, hrow, his, hsp, hn200, rfl⟩ := add_parts ha
  obtain ⟨hmay, hok, hr0, hway, hxn, hxl, hxr, hrise⟩ := leaf_parts hleaf
  obtain ⟨n0, rfl⟩ : ∃ n0 : Nat, r = n0 := ⟨r.toNat, by dsimp only at hr0; omega⟩
  rw [Int.toNat_natCast] at hway hsp
  obtain ⟨x, hx, rfl⟩ := nds_some rfl hxn
  dsimp only at *
  have hpos := pos_le (K := K) k x.n.keys
  obtain ⟨fp, fc, rfl, -⟩ := h.2.slice
  have hleafl : leaf < P.length := (List.getElem?_eq_some_iff.1 hx).1
  have hlat : P.length ≤ 500 := hpl
  obtain ⟨b, off, cap, kp1, kc1, rp1, rc1, cp1, cc1, rfl, hlk, hbl, e1, e2, e3, hc0, -, -, -, hnode⟩ := nodes_get h.1 hx
  have HIN := Lib.hid h
  have HLS := Lib.hid hls
  have HLS2 := Lib.hid hls
  have HF2 := Lib.hid hF2
  have HPLEN : Hid (path.length ≤ 1000) := Lib.hid (by have := way_len hway; omega)
  have HK1 : Hid (KeysIn K B w (.slice kp1 x.n.keys.length kc1) x.n.keys) := Lib.hid (by rw [← e1]; exact hnode.1)
  have HMAY := Lib.hid hmay
  have HKE : Hid (keyE (K.ok k) = 0) := Lib.hid (by rw [hok]; rfl)
  have HROW := Lib.hid hrow
  have HIS := Lib.hid his
  have HWAY := Lib.hid hway
  have HRI := Lib.hid hrise
  have HSP := Lib.hid hsp
  have HXR := Lib.hid hxr
  have HXX := Lib.hid hx
  have HN200 := Lib.hid hn200
  have k1 : (leaf : Int) < (P.length : Int) := by omega
  have k0 : (0 : Int) ≤ (leaf : Int) := by omega
  clear h hls hF2 hmay hok hr0 hway hxn hxl hxr hrise hrow his hsp hnode e1 e2 e3 hx ha hleaf hn200
  go_enter Tryz.func10, Tryz.ntmps10
  go_upto_region 8 with (first
    | (go_at_call 21; refine (mayBe_any K B _ _ _ _ P F (HIN.out.below (by (repeat (first | exact Below.refl _ _ | assumption | refine nw_more ?_ _ _ | refine nw_alloc ?_ _ | refine nw_drew ?_ | refine nw_drewN ?_ _ | refine nw_set ?_ (by first | (simp; done) | (simp; omega) | omega) _))))).mono ?_; rw [HMAY.out]; (rintro e w' ⟨rfl, hb⟩; obtain ⟨n, es, rfl⟩ := below_more hb; clear hb))
    | (go_at_call 22; refine (key_any K k _).mono ?_; rw [HKE.out]; rintro e w' ⟨rfl, rfl⟩)
    | (go_at_call 23; refine (isRow_any _ _).mono ?_; rw [HROW.out]; rintro e w' ⟨rfl, rfl⟩)
    | (go_at_call 24; refine (way_any K B _ _ _ n0 P F k 100 leaf path (HIN.out.1.below (by (repeat (first | exact Below.refl _ _ | assumption | refine nw_more ?_ _ _ | refine nw_alloc ?_ _ | refine nw_drew ?_ | refine nw_drewN ?_ _ | refine nw_set ?_ (by first | (simp; done) | (simp; omega) | omega) _)))) (by decide) HWAY.out).mono ?_; rintro e w' ⟨pv, rfl, hop, hb⟩; obtain ⟨n1, es1, rfl⟩ := below_more hb; clear hb; obtain ⟨pp, pc, rfl⟩ := hop.form)
    | (go_at_call 25; refine (search_any K B _ _ x.n.keys k (HK1.out.below (by (repeat (first | exact Below.refl _ _ | assumption | refine nw_more ?_ _ _ | refine nw_alloc ?_ _ | refine nw_drew ?_ | refine nw_drewN ?_ _ | refine nw_set ?_ (by first | (simp; done) | (simp; omega) | omega) _)))) HRI.out).mono ?_; rw [HIS.out]; rintro e w' ⟨rfl, rfl⟩)
    | (go_at_call 26; refine (copied_any K B _ _ _ _ P F (HIN.out.1.below (by (repeat (first | exact Below.refl _ _ | assumption | refine nw_more ?_ _ _ | refine nw_alloc ?_ _ | refine nw_drew ?_ | refine nw_drewN ?_ _ | refine nw_set ?_ (by first | (simp; done) | (simp; omega) | omega) _)))) (HIN.out.2.below (by (repeat (first | exact Below.refl _ _ | assumption | refine nw_more ?_ _ _ | refine nw_alloc ?_ _ | refine nw_drew ?_ | refine nw_drewN ?_ _ | refine nw_set ?_ (by first | (simp; done) | (simp; omega) | omega) _)))) (by omega) (fun x hx => by have := HLS.out x hx; omega)).mono ?_; rintro e w' ⟨nv, fv, Q, rfl, hQ, hnQ, hfQ, hsQ, hb⟩; obtain ⟨n2, es2, rfl⟩ := below_more hb; clear hb; obtain ⟨np, nc, hnv⟩ := hQ.form; obtain ⟨fp2, fc2, hfv2⟩ := hfQ.slice; subst hnv hfv2))
  refine wp_cut (fun W => ∃ G : Nat, Hid (w.heap.size + 2 ≤ G ∧ G ≤ w.heap.size + 1 + 1 + es.size + es1.size + es2.size ∧ G ≤ W.heap.size) ∧ Hid (OwnT K G W (.slice np Q.length nc) (.slice fp2 F.length fc2) Q F) ∧ Hid (Blc W (w.heap.size + 1 + 1 + es.size + es1.size + es2.size) 25 #[.slice np Q.length nc, .int .i64 n0, .slice fp2 F.length fc2]) ∧ Hid (OwnPl w.heap.size W (.slice pp path.length pc) path) ∧ Hid (Below w.heap.size w W) ∧ Hid (Blc W (w.heap.size + 1) 25 #[.slice none 0 0, .int .i64 0, .slice none 0 0])) ?_ ?_
  · refine ⟨_, Lib.hid ⟨?_, ?_, ?_⟩, Lib.hid ⟨hQ.below (by (repeat (first | exact Below.refl _ _ | assumption | refine nw_more ?_ _ _ | refine nw_alloc ?_ _ | refine nw_drew ?_ | refine nw_drewN ?_ _ | refine nw_set ?_ (by first | (simp; done) | (simp; omega) | omega) _))), own_below hfQ (by (repeat (first | exact Below.refl _ _ | assumption | refine nw_more ?_ _ _ | refine nw_alloc ?_ _ | refine nw_drew ?_ | refine nw_drewN ?_ _ | refine nw_set ?_ (by first | (simp; done) | (simp; omega) | omega) _))), hsQ⟩, Lib.hid (Blc.newAt _ _ _ (by simp)), Lib.hid (World.ownsRow.mono (own_below hop (by (repeat (first | exact Below.refl _ _ | assumption | refine nw_more ?_ _ _ | refine nw_alloc ?_ _ | refine nw_drew ?_ | refine nw_drewN ?_ _ | refine nw_set ?_ (by first | (simp; done) | (simp; omega) | omega) _)))) (by simp; omega)), Lib.hid (by (repeat (first | exact Below.refl _ _ | assumption | refine nw_more ?_ _ _ | refine nw_alloc ?_ _ | refine nw_drew ?_ | refine nw_drewN ?_ _ | refine nw_set ?_ (by first | (simp; done) | (simp; omega) | omega) _))), Lib.hid (((((Blc.newAt _ _ _ (by simp)).mre _ _).mre _ _).mre _ _).alloc _)⟩
    · first | (simp; done) | (simp; omega)
    · first | (simp; done) | (simp; omega)
    · first | (simp; done) | (simp; omega)
  clear hQ hfQ hsQ hop hc0 hbl HK1 HMAY HKE HROW HIS HWAY HRI HIN HLS
  have htw : w.heap.size + 2 ≤ w.heap.size + 1 + 1 + es.size + es1.size + es2.size := by omega
  generalize w.heap.size + 1 + 1 + es.size + es1.size + es2.size = tb at *
  rintro W ⟨G, HG, HO, HT, HPL, HBL, HRB⟩
  have hql : Q.length = P.length := by have := congrArg List.length hnQ; simpa [ndsOf] using this
  obtain ⟨x2, hx2, hx2n⟩ := nds_some hnQ (show (ndsOf P)[leaf]? = some x.n by rw [ndsOf, List.getElem?_map, HXX.out]; rfl)
  obtain ⟨nb, nc', enp, -, -, -, hnbl⟩ := own_pos HO.out.ns.row (by omega)
  obtain ⟨rfl, rfl⟩ : np = some ⟨nb, 0, none⟩ ∧ nc = nc' := by simpa using enp
  have hx2o := HO.out.ns.each x2 (List.mem_of_getElem? hx2)
  have t0 := HT.out.cell 0
  have htl : Lt tb W.heap.size := HT.out.lt
  simp only [List.getElem?_toArray, List.getElem?_cons_zero] at t0
  have k2 : (leaf : Int) < (Q.length : Int) := by omega
  have HPUT : Hid (Calls Tryz.prog 27 #[.pointer (some ⟨nb, leaf * 4, none⟩), .int .i64 (posB K k x.n.keys), .string (K.s k), .int .i64 row] W fun e w' => e = .returned (.tuple #[]) ∧ Hid (TreeS K G tb w' ⟨(ndsOf P).set leaf ⟨insAt x.n.keys (posB K k x.n.keys) k, insAt x.n.rows (posB K k x.n.keys) row, x.n.kids, x.n.leaf⟩, n0, F, false⟩) ∧ Hid (Step G W w')) := Lib.hid (by
    have hl1 : x.n.keys.length ≤ 500 := by have := (HLS2.out x (List.mem_of_getElem? HXX.out)).1; omega
    have hl2 : x.n.rows.length ≤ 500 := by have := (HLS2.out x (List.mem_of_getElem? HXX.out)).2.1; omega
    refine (put_any K G W nb nc _ Q F leaf (posB K k x.n.keys) x2 k row HO.out HG.out.2.2 hx2 (by rw [hx2n]; exact hpos) (by rw [hx2n, HXR.out]; exact hpos) (by rw [hx2n]; omega) (by rw [hx2n]; omega)).mono ?_
    rintro e w' ⟨Q2, rfl, hO2, hnd2, hst2⟩
    refine ⟨rfl, Lib.hid ⟨Q2, _, _, _, ?_, hO2, ⟨fun _ => rfl, fun h => (by cases h), _, _, _, rfl⟩, hst2.blc HT.out (by decide) (by decide) (by decide)⟩, Lib.hid hst2⟩
    rw [hnd2, hnQ, hx2n]
    rfl)
  clear hx2o enp hx2 hx2n
  go_upto_region 9 with (first | (go_at_call 27; refine HPUT.out.mono ?_; rintro e w3 ⟨rfl, HTS3, HST3⟩))
  clear HPUT
  have HUP : Hid (Calls Tryz.prog 28 #[.pointer (some ⟨tb, 0, none⟩), .slice pp path.length pc] w3 fun e w' => e = .returned (.tuple #[]) ∧ Hid (TreeS K G tb w' S ∧ StepT G tb w3 w')) := Lib.hid (by
    have hp3 : OwnPl w.heap.size w3 (.slice pp path.length pc) path := HPL.out.step (fun b cs hb => HST3.out.blc hb (by decide) (by decide) (by decide))
    refine (splitUp_any K G w.heap.size tb w3 _ S _ path HTS3.out (Nat.le_trans HG.out.2.2 HST3.out.1.size) hp3 HPLEN.out HSP.out).mono ?_
    rintro e w' ⟨rfl, h1, h2⟩
    exact ⟨rfl, Lib.hid ⟨h1, h2⟩⟩)
  go_upto_region 10 with (first | (go_at_call 28; refine HUP.out.mono ?_; rintro e w4 ⟨rfl, HTS4⟩))
  clear HUP
  have hsf : S.free.length ≤ 1000000 := by
    have := HF2.out
    unfold St.done at this
    cases ha : S.adv <;> rw [ha] at this <;> simp at this <;> omega
  obtain ⟨v4, u4, P4, htb4, hin4, hnd4⟩ := done_in HTS4.out.1 hsf
  obtain ⟨vp, vc, rfl, -⟩ := hin4.1.slice
  obtain ⟨up, uc, rfl, -⟩ := hin4.2.slice
  have HS34 : Hid (StepT G tb W w4) := Lib.hid ((HST3.out.toT tb).trans HTS4.out.2)
  have hrb4 := HS34.out.blc _ _ _ HRB.out (by omega) (by decide) (by decide) (by decide)
  have c0 := htb4.cell 0
  have c1 := htb4.cell 1
  have c2 := htb4.cell 2
  have r0 := hrb4.cell 0
  have r1 := hrb4.cell 1
  have r2 := hrb4.cell 2
  have z0 := hrb4.free 0
  have z1 := hrb4.free 1
  have z2 := hrb4.free 2
  have hl4 : Lt tb w4.heap.size := htb4.lt
  have hr4 : Lt (w.heap.size + 1) w4.heap.size := hrb4.lt
  simp only [List.getElem?_toArray, List.getElem?_cons_succ, List.getElem?_cons_zero] at c0 c1 c2 r0 r1 r2
  have hnl4 : ¬ ((200 : Int) < (P4.length : Int)) := by
    have := congrArg List.length hnd4
    have := HN200.out
    simp [ndsOf] at *
    omega
  (refine wp_region_quiet_more (by kernel_rfl) (by kernel_rfl) ?_; (repeat (first | go_big_quiet_skip | quiet_step ((first | (go_at_call 29; exact Calls.more_same (mostNodes_any _)))))); refine wpQuiet_nil ?_; intro _ hw'; obtain ⟨⟨nq, esq⟩, hw''⟩ := hw'; subst hw''; dsimp only)
  go_wp2_with fail
  refine bodyPost_ret (v := .tuple #[.agg #[.slice vp P4.length vc, .int .i64 S.root, .slice up S.done.free.length uc], .int .i64 0]) (by simp [results, Tryz.results10, go_sem, r0, r1, r2, hr4]) rfl ?_
  obtain ⟨f1, f2⟩ := out_facts hin4 HG.out.1 htw (Nat.le_refl _) HBL.out HS34.out rfl nq esq
  exact ⟨_, _, P4, rfl, f1, hnd4, f2⟩
end Go.Proofs.YtaophiknldkfdaaGreatDoor
