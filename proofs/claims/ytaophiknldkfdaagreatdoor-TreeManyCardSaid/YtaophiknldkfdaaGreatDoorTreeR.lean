/- Contracts of package tree: laidNode. -/
import Derived.Test.YtaophiknldkfdaaGreatDoorTreeN
import Derived.Test.YtaophiknldkfdaaGreatDoorTreeE
import Derived.Deep.RegionLaw
import Derived.Deep.AppendLies
namespace Go.Proofs.YtaophiknldkfdaaGreatDoor
open Go.RowKit

/-- A step within the tree whose block is tb. -/
structure StepT (B tb : Nat) (w w' : World) : Prop where
  os : w'.os = w.os
  tape : w'.tape = w.tape
  output : w'.output = w.output
  size : w.heap.size ≤ w'.heap.size
  old : ∀ k, k < B → k < w.heap.size → k ≠ tb → w'.heap[k]? = w.heap[k]?
  blc : ∀ (b : Nat) (T : TypeId) (cs : Array Value), Blc w b T cs → b ≠ tb → T ≠ 53 → T ≠ 9 → T ≠ 3 → Blc w' b T cs
  oth : KeepsOthers w w'
theorem StepT.trans {B tb : Nat} {a b c : World} (h : StepT B tb a b) (k : StepT B tb b c) : StepT B tb a c :=
  ⟨k.os.trans h.os, k.tape.trans h.tape, k.output.trans h.output, Nat.le_trans h.size k.size, fun i h1 h2 h3 => (k.old i h1 (Nat.lt_of_lt_of_le h2 h.size) h3).trans (h.old i h1 h2 h3), fun g T cs hb h0 h1 h2 h3 => k.blc g T cs (h.blc g T cs hb h0 h1 h2 h3) h0 h1 h2 h3, h.oth.trans k.oth⟩
theorem Step.toT {B : Nat} {w w' : World} (h : Step B w w') (tb : Nat) : StepT B tb w w' :=
  ⟨h.1.os, h.1.tape, h.1.output, h.1.size, fun k h1 _ _ => h.1.block k h1, fun g T cs hb _ h1 h2 h3 => h.2.1 g T cs hb h1 h2 h3, h.2.2⟩

theorem step_append_own {P : Program} {w : World} {ops : Array Oper} {o : Oper} {a : Act} {K : Act → World → Prop} {Q : Exit → Act → World → Prop} {E : Prop} (hgd : o.guard = none) (s x : Operand) (t : TypeId)
    (ho : o.op = .call { callee := .builtin .append, args := #[s, x], argTypes := #[t, t] })
    (base : Nat) (e : TypeId) (i : TypeInfo) (z : Value) (size bytes : Nat) (ht : P.underlying t = some (.slice e)) (hi : P.info? e = some i) (hz : i.zero = some z)
    (hsize : i.size = size) (hby : i.bytes = bytes) (hzs : z.cells.size = size) (hsz : 0 < size)
    (v : Value) (n : Nat) (xs : List Value) (hs : a.eval s = v) (hown : w.ownsRow base e size v n xs)
    (ad : Addr) (m c : Nat) (news : List Value) (hx : a.eval x = .slice (some ad) m c) (hl : news.length = m * size) (hnews : ∀ j u, news[j]? = some u → w.cell? (ad.add j) = some u) (h1 : ∀ u ∈ news, u.oneCell' = true)
    (h63 : n + m ≤ maxLen) (hbytes : (n + m) * bytes ≤ 140737488355328) (hbase : base ≤ w.heap.size)
    (h : ∀ v' w', w'.ownsRow base e size v' (n + m) (xs ++ news) → w.grownBy w' v.ownBlock → K (a.put o.dst v') w') :
    if Region.wanted o (yielded ops a.tmps) = true then Oper.wp P o a w K Q else E := by
  have hw : Region.wanted o (yielded ops a.tmps) = true := by simp [Region.wanted, hgd]
  rw [if_pos hw]
  exact wp_append_own w s x t ho base e i z size bytes ht hi hz hsize hby hzs hsz v n xs hs hown ad m c news hx hl hnews h1 h63 hbytes hbase fun v' w' h2 h3 _ => h v' w' h2 h3
theorem slice_own {w : World} {B : Nat} {e : TypeId} {s : Nat} {v : Value} {n : Nat} {xs : List Value} (h : w.ownsRow B e s v n xs) (hn : 0 < n) : ∃ q c, v = .slice q n c := by
  rcases h.2 with ⟨-, h0⟩ | ⟨g, c, cur, rfl, -⟩
  · omega
  · exact ⟨_, _, rfl⟩
theorem stepT_append {B tb : Nat} {w X w1 : World} {v : Value} {n : Nat} {xs : List Value} (hbel : Below w.heap.size w X) (hown : w.ownsRow B 53 4 v n xs) (hg : X.grownBy w1 v.ownBlock) (i : Nat) (u : Value) : StepT B tb w (w1.setCell ⟨tb, i, none⟩ u) := by
  have hb : Below 0 w1 (w1.setCell ⟨tb, i, none⟩ u) := (Below.refl 0 w1).setCell (Nat.zero_le _) u
  refine ⟨hb.os.trans (hg.os.trans hbel.os), hb.tape.trans (hg.tape.trans hbel.tape), hb.output.trans (hg.output.trans hbel.output), Nat.le_trans hbel.size (Nat.le_trans hg.size hb.size), ?_, ?_, ((oth_below hbel).trans (oth_grown (own_below hown hbel) hg)).trans (KeepsOthers.setCell _ _ _)⟩
  · intro k hk hk2 hk3
    rw [heap_setCell_other w1 ⟨tb, i, none⟩ k u hk3, hg.block k (Nat.lt_of_lt_of_le hk2 hbel.size) (fun e => by have := (World.ownsRow.lt hown k e.symm).1; omega)]
    exact hbel.block k hk2
  · intro g T cs hc h0 h1 _ _
    exact (Blc.grown (hc.below hbel) hg (not_own hown hc h1)).far (a := ⟨tb, i, none⟩) h0 _
set_option maxHeartbeats 1000000 in
theorem laid_any {α : Type} (K : Ks α) (B : Nat) (w : World) (tb : Nat) (v fv : Value) (r : Int) (P : List (Nv α)) (y : Nv α) (h : OwnT K B w v fv P []) (hB : B ≤ w.heap.size) (ht : Blc w tb 25 #[v, .int .i64 r, fv]) (hy : OwnNd K B w y) (ha : ApartN fv P P.length y) (hl : P.length < 1000) :
    Calls Tryz.prog 51 #[.pointer (some ⟨tb, 0, none⟩), .agg #[y.kv, y.rv, y.cv, .bool y.n.leaf]] w fun e w' => ∃ v', e = .returned (.int .i64 P.length) ∧ OwnT K B w' v' fv (P ++ [y]) [] ∧ Blc w' tb 25 #[v', .int .i64 r, fv] ∧ StepT B tb w w' := by
  obtain ⟨i0, hi, hz0, hz1, hz2⟩ := info_parts info_node
  have HI := Lib.hid hi
  have HT := Lib.hid ht
  have HO := Lib.hid h
  have HY := Lib.hid hy
  have HA := Lib.hid ha
  obtain ⟨vp, vc, hv⟩ : ∃ vp vc, v = .slice vp P.length vc := by
    obtain ⟨p, c, e, -⟩ := h.ns.inn.slice
    exact ⟨p, c, e⟩
  obtain ⟨fp, fc, hf⟩ := h.fr.slice
  obtain ⟨kq, kqc, hkv⟩ := hy.1.form
  obtain ⟨rq, rqc, hrv⟩ := hy.2.1.slice
  obtain ⟨cq, cqc, hcv⟩ := hy.2.2.1.slice
  have hone : y.kv.oneCell' = true ∧ y.rv.oneCell' = true ∧ y.cv.oneCell' = true := ⟨by rw [hkv]; rfl, by rw [hrv]; rfl, by rw [hcv]; rfl⟩
  have h0 := ht.cell 0
  have h2 := ht.cell 2
  have hfz := ht.free 0
  have hlt : Lt tb w.heap.size := ht.lt
  simp only [List.getElem?_toArray, List.getElem?_cons_succ, List.getElem?_cons_zero] at h0 h2
  rw [hv] at h0
  rw [hf] at h2
  simp only [List.length_nil] at h2
  have HV := Lib.hid hv
  have HF := Lib.hid hf
  clear h ht hy ha hi hkv hrv hcv
  go_enter Tryz.func51, Tryz.ntmps51
  go_wp2_with fail
  go_region_law (refine step_append_own rfl (.tmp 16) (.tmp 18) _ rfl B 53 i0 (.agg #[.slice none 0 0, .slice none 0 0, .slice none 0 0, .bool false]) 4 80 Tryz.underlying22 HI.out hz0 hz1 hz2 rfl (by decide) _ P.length (nodeCells P) rfl (own_below (HV.out ▸ HO.out.ns.row) (by (repeat (first | exact Below.refl _ _ | assumption | refine nw_more ?_ _ _ | refine nw_alloc ?_ _ | refine nw_drew ?_ | refine nw_drewN ?_ _ | refine nw_set ?_ (by first | (simp; done) | (simp; omega) | omega) _)))) ⟨_, 0, none⟩ 1 1 [y.kv, y.rv, y.cv, .bool y.n.leaf] rfl rfl (news4 (by simp [go_sem]) (by simp [go_sem]) (by simp [go_sem]) (by simp [go_sem])) (news4_one hone.1 hone.2.1 hone.2.2 rfl) (by unfold maxLen; omega) (by omega) (by first | (simp; done) | (simp; omega) | omega) ?_; intro v1 w1 hown1 hgrow1; obtain ⟨q1, qc1, rfl⟩ : ∃ q1 qc1, v1 = .slice q1 (P.length + 1) qc1 := slice_own hown1 (Nat.succ_pos _); have HO1 := Lib.hid (OwnT.snoc HO.out (HY.out.below (by (repeat (first | exact Below.refl _ _ | assumption | refine nw_more ?_ _ _ | refine nw_alloc ?_ _ | refine nw_drew ?_ | refine nw_drewN ?_ _ | refine nw_set ?_ (by first | (simp; done) | (simp; omega) | omega) _)))) HA.out (by (repeat (first | exact Below.refl _ _ | assumption | refine nw_more ?_ _ _ | refine nw_alloc ?_ _ | refine nw_drew ?_ | refine nw_drewN ?_ _ | refine nw_set ?_ (by first | (simp; done) | (simp; omega) | omega) _))) hown1 (HV.out ▸ hgrow1) hl); have HT1 := Lib.hid (Blc.grown (HT.out.below (by (repeat (first | exact Below.refl _ _ | assumption | refine nw_more ?_ _ _ | refine nw_alloc ?_ _ | refine nw_drew ?_ | refine nw_drewN ?_ _ | refine nw_set ?_ (by first | (simp; done) | (simp; omega) | omega) _)))) (HV.out ▸ hgrow1) (not_own HO.out.ns.row HT.out (by decide))); have HS1 := Lib.hid (fun (u : Value) => stepT_append (tb := tb) (by (repeat (first | exact Below.refl _ _ | assumption | refine nw_more ?_ _ _ | refine nw_alloc ?_ _ | refine nw_drew ?_ | refine nw_drewN ?_ _ | refine nw_set ?_ (by first | (simp; done) | (simp; omega) | omega) _))) HO.out.ns.row (HV.out ▸ hgrow1) 0 u); have g0 := HT1.out.cell 0; have gf := HT1.out.free 0; simp only [List.getElem?_toArray, List.getElem?_cons_zero] at g0; have hlt1 : Lt tb w1.heap.size := HT1.out.lt; clear hown1 hgrow1)
  all_goals
    have hset := HT1.out.set 0 (.slice q1 (P.length + 1) qc1)
    go_wp2
    go_ret
    refine ⟨_, ret_int (by go_num), ?_, hset, HS1.out _⟩
    exact ⟨HO1.out.ns.set HT1.out 0 _, own_set HO1.out.fr HT1.out (by decide) 0 _, HO1.out.fs⟩
end Go.Proofs.YtaophiknldkfdaaGreatDoor
