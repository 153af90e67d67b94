/- Contracts: slices.Collect of slices.Chunk. No condition. -/
import Derived.Test.YtaelgappabecgaaCoF
import Derived.Shelf.Abstract
namespace Go.Proofs.Ytaelgappabecgaa
open Go.RowKit

attribute [local go_sem] Oper.semAt_some

/-- Chunk goes, from the first part on. -/
theorem chunk_goes (F : Fence) (n : Nat) (hf : F.fn 43) (hro : F.round = none) (hn : 1 ≤ n) (Bs Bn g cap N : Nat) (hN : N ≤ 100000) (hcap : N ≤ cap) (w : World) (hBs : Bs < w.heap.size) (hBn : Bn < w.heap.size) (hc : w.cell? ⟨Bs, 0, none⟩ = some (.slice (some ⟨g, 0, none⟩) N cap)) (hc2 : w.cell? ⟨Bn, 0, none⟩ = some (.int .i64 20)) :
    GoesD F n Try.prog 43 #[.pointer (some ⟨Bs, 0, none⟩), .pointer (some ⟨Bn, 0, none⟩)] (encC g N) (KeepB Bs Bn) ((N + 19) / 20) w := by
  intro l J W hW hD hY h0
  exact chunk1_in F n hf hro hn l Bs Bn g cap N hN hcap J hD hY W ((hW.cell (p := ⟨Bs, 0, none⟩) hBs).trans hc) ((hW.cell (p := ⟨Bn, 0, none⟩) hBn).trans hc2) h0
set_option maxHeartbeats 1000000 in
theorem chunk_any (w : World) (p : Option Addr) (len cap : Nat) :
    Calls Try.prog 30 #[.slice p len cap, .int .i64 20] w fun e w' => e = .returned (.func (.func 43) #[] #[.pointer (some ⟨w.heap.size, 0, none⟩), .pointer (some ⟨w.heap.size + 1, 0, none⟩)]) ∧ w' = (w.alloc (.cells #[.slice p len cap] 41)).alloc (.cells #[.int .i64 20] 3) := by
  go_enter Try.func30, Try.ntmps30
  go_wp2
  go_ret
  exact ⟨rfl, rfl⟩
/-- The parts' cells. -/
def partVal (g N k : Nat) : Value := .slice (some ⟨g, 20 * k, none⟩) (min 20 (N - 20 * k)) (min 20 (N - 20 * k))
def partVals (g N M : Nat) : List Value := (List.range M).map (partVal g N)
theorem partVals_len (g N M : Nat) : (partVals g N M).length = M := by simp [partVals]
def OwnP (B : Nat) (w : World) (u : Value) (g N M : Nat) : Prop := w.ownsRow B 41 1 u M (partVals g N M)
theorem own_put {W : World} {B : Nat} {e : TypeId} {s n : Nat} {v : Value} {xs : List Value} (h : W.ownsRow B e s v n xs) {l : Nat} {o : Obj} (hl : W.heap[l]? = some o) (hc : o.isCells = false) (o' : Obj) : (W.putObj l o').ownsRow B e s v n xs := by
  refine World.ownsRow.kept h (grownBy_putObj' W l o') ?_
  rcases h.2 with ⟨rfl, -⟩ | ⟨g, c, cur, rfl, -, hg, -⟩
  · exact .inl rfl
  · refine .inr fun e1 => ?_
    have e2 : g = l := by cases e1; rfl
    subst e2
    rw [hg] at hl
    cases hl
    cases hc
theorem Blc.put {W : World} {b : Nat} {T : TypeId} {cs : Array Value} (h : Blc W b T cs) {l : Nat} {o : Obj} (hl : W.heap[l]? = some o) (hc : o.isCells = false) (o' : Obj) : Blc (W.putObj l o') b T cs := by
  refine Blc.grown h (grownBy_putObj' W l o') fun e => ?_
  cases e
  unfold Blc at h
  rw [hl] at h
  cases h
  cases hc
theorem oth_below {w w' : World} (h : Below w.heap.size w w') : KeepsOthers w w' := ⟨h.size, fun k _ hk _ => (h.block k (Array.getElem?_eq_some_iff.1 hk).1).trans hk⟩
/-- What a round keeps. -/
structure SqI (w : World) (bx g N : Nat) (k : Nat) (W : World) : Prop where
  below : Below w.heap.size w W
  blk : ∃ u, Blc W bx 63 #[u] ∧ OwnP w.heap.size W u g N k
theorem SqI.put {w : World} {bx g N k : Nat} {W : World} (h : SqI w bx g N k W) {l : Nat} {o : Obj} (hw : w.heap.size ≤ l) (hl : W.heap[l]? = some o) (hc : o.isCells = false) (o' : Obj) : SqI w bx g N k (W.putObj l o') := by
  obtain ⟨u, h1, h2⟩ := h.blk
  have hg := grownBy_putObj' W l o'
  have hlt := (Array.getElem?_eq_some_iff.1 hl).1
  refine ⟨⟨hg.os.trans h.below.os, hg.tape.trans h.below.tape, hg.output.trans h.below.output, Nat.le_trans h.below.size hg.size, fun q hq => (hg.block q (by have := h.below.size; omega) (fun e => by cases e; omega)).trans (h.below.block q hq)⟩, u, h1.put hl hc o', own_put h2 hl hc o'⟩
theorem SqI.on {w : World} {bx g N k : Nat} {W W' : World} (h : SqI w bx g N k W) (hb : Below W.heap.size W W') : SqI w bx g N k W' := by
  obtain ⟨u, h1, h2⟩ := h.blk
  exact ⟨nw_trans h.below hb, u, h1.below hb, own_below h2 hb⟩

set_option maxRecDepth 100000 in
set_option maxHeartbeats 4000000 in
theorem appendSeq_any (w : World) (Bs Bn g cap N : Nat) (hN : N ≤ 100000) (hcap : N ≤ cap) (hBs : Bs < w.heap.size) (hBn : Bn < w.heap.size) (hc : w.cell? ⟨Bs, 0, none⟩ = some (.slice (some ⟨g, 0, none⟩) N cap)) (hc2 : w.cell? ⟨Bn, 0, none⟩ = some (.int .i64 20)) :
    Calls Try.prog 42 #[.slice none 0 0, .func (.func 43) #[] #[.pointer (some ⟨Bs, 0, none⟩), .pointer (some ⟨Bn, 0, none⟩)]] w fun e w' => ∃ u, e = .returned u ∧ OwnP w.heap.size w' u g N ((N + 19) / 20) ∧ Below w.heap.size w w' := by
  refine (callsIn_wide (n := 8)).1 ?_
  refine callsIn_of_wp_marks Try.func42 rfl trivial ?_ rfl
  simp only [Try.ntmps42, List.size_toArray, List.length_cons, List.length_nil, Nat.reduceAdd, Nat.reduceSub, Array.replicate_succ, Array.replicate_zero, List.push_toArray, List.append_toArray, List.nil_append, List.cons_append]
  gi_wp2
  refine wpIn_goesD rfl (by decide) (gf := 43) (lb := #[.pointer (some ⟨Bs, 0, none⟩), .pointer (some ⟨Bn, 0, none⟩)]) rfl trivial (enters_of Try.func43 (by kernel_rfl) rfl)
    (chunk_goes Fence.wide 7 trivial rfl (by decide) Bs Bn g cap N hN hcap _ (by simp; omega) (by simp; omega) (by rw [cell_past _ _ _ _ hBs]; exact hc) (by rw [cell_past _ _ _ _ hBn]; exact hc2)) KeepB.trans (KeepB.put (by simp; omega) (by simp; omega)) (Below.refl _ _) (fun _ => rfl)
    (SqI w w.heap.size g N) (fun k W h => h.on (by (repeat (first | exact Below.refl _ _ | assumption | refine nw_more ?_ _ _ | refine nw_alloc ?_ _ | refine nw_drew ?_ | refine nw_drewN ?_ _ | refine nw_set ?_ (by first | (simp; done) | (simp; omega) | omega) _)))) ?hI ?h0
    (fun k a' W => SqI w w.heap.size g N k W ∧ a' = { tmps := #[.slice none 0 0, .func (.func 43) #[] #[.pointer (some ⟨Bs, 0, none⟩), .pointer (some ⟨Bn, 0, none⟩)], .pointer (some ⟨w.heap.size, 0, none⟩), undef, .slice none 0 0, partVal g N k, .func (.func 43) #[] #[.pointer (some ⟨Bs, 0, none⟩), .pointer (some ⟨Bn, 0, none⟩)], partVal g N k, undef, undef, undef, undef, undef], defers := [] }) ?hM ?assign ?body ?done
  case hI => exact fun k W l o o' hi hl ho hc => hi.put (Nat.le_trans (by simp) hl) ho hc o'
  case h0 =>
    intro o1 o2
    exact ⟨by (repeat (first | exact Below.refl _ _ | assumption | refine nw_more ?_ _ _ | refine nw_alloc ?_ _ | refine nw_drew ?_ | refine nw_drewN ?_ _ | refine nw_set ?_ (by first | (simp; done) | (simp; omega) | omega) _)), .slice none 0 0, by (repeat (first | exact Blc.newAt _ _ _ (by simp; done) | refine Blc.alloc ?_ _ | refine Blc.mre ?_ _ _)), World.ownsRow_nil _ _ _ _⟩
  case hM =>
    rintro k a W l o o' ⟨hi, rfl⟩ hl ho hc
    exact ⟨hi.put (Nat.le_trans (by simp) hl) ho hc o', rfl⟩
  case assign =>
    intro l k W KK hk hi hK
    unfold encC
    gi_wp2
    exact hK _ _ (KeepsFrom.refl _ _) (KeepB.refl _ _ _) ⟨hi, rfl⟩
  case body =>
    rintro l k a' W hk ⟨hi, rfl⟩
    obtain ⟨u, hbl, hown⟩ := hi.blk
    obtain ⟨up, uc, hu⟩ : ∃ up uc, u = .slice up k uc := by
      rcases hown.2 with ⟨rfl, h0⟩ | ⟨g1, c1, cur, rfl, -⟩
      · exact ⟨none, 0, by rw [h0]⟩
      · exact ⟨_, _, rfl⟩
    subst hu
    have c0 := hbl.cell 0
    have f0 := hbl.free 0
    have hlt : Lt w.heap.size W.heap.size := hbl.lt
    simp only [List.getElem?_toArray, List.getElem?_cons_zero] at c0
    have hsz := hi.below.size
    obtain ⟨i0, hi0, hz0, hz1, hz2⟩ := info_parts info_bs
    have HI := Lib.hid hi0
    have HS := Lib.hid hi
    have HB := Lib.hid hbl
    have HO := Lib.hid hown
    unfold partVal at *
    clear hi hbl hown hi0 hc hc2
    gi_wp2_with (gi_at_builtin; refine wpListIn_append_own _ rfl _ _ 63 rfl w.heap.size 41 i0 (.slice none 0 0) 1 24 Try.underlying63 HI.out hz0 hz1 hz2 rfl (by decide) _ k (partVals g N k) rfl (own_below HO.out (by (repeat (first | exact Below.refl _ _ | assumption | refine nw_more ?_ _ _ | refine nw_alloc ?_ _ | refine nw_drew ?_ | refine nw_drewN ?_ _ | refine nw_set ?_ (by first | (simp; done) | (simp; omega) | omega) _)))) ⟨_, 0, none⟩ 1 1 [partVal g N k] rfl rfl ?c1 ?c2 ?c3 ?c4 ?c5 ?_)
    case c1 => unfold partVal; exact news1 (by simp [go_sem])
    case c2 => unfold partVal; exact news1_one rfl
    case c3 => unfold maxLen; omega
    case c4 => omega
    case c5 => simp; omega
    intro V w2 hown' hgrow hnil
    clear hnil
    obtain ⟨q1, qc1, hV⟩ : ∃ q1 qc1, V = .slice q1 (k + 1) qc1 := by
      rcases hown'.2 with ⟨-, h0⟩ | ⟨g1, c1, cur, e, -⟩
      · omega
      · exact ⟨_, _, e⟩
    subst hV
    have hown2 : OwnP w.heap.size w2 (.slice q1 (k + 1) qc1) g N (k + 1) := by
      unfold OwnP partVals
      rw [List.range_succ, List.map_append]
      exact hown'
    have hX : Below W.heap.size W (W.alloc (Obj.cells #[.slice (some ⟨g, 20 * k, none⟩) (min 20 (N - 20 * k)) (min 20 (N - 20 * k))] 41)) := by (repeat (first | exact Below.refl _ _ | assumption | refine nw_more ?_ _ _ | refine nw_alloc ?_ _ | refine nw_drew ?_ | refine nw_drewN ?_ _ | refine nw_set ?_ (by first | (simp; done) | (simp; omega) | omega) _))
    have hbX := HB.out.below hX
    have hoX := own_below HO.out hX
    have hb2 : Blc w2 w.heap.size 63 #[.slice up k uc] := hbX.grown hgrow (not_own hoX hbX (by decide))
    have x0 := hb2.cell 0
    have xf := hb2.free 0
    have hlt2 : Lt w.heap.size w2.heap.size := hb2.lt
    simp only [List.getElem?_toArray, List.getElem?_cons_zero] at x0
    have hbw : Below w.heap.size w w2 := below_append (nw_trans HS.out.below hX) hoX hgrow
    have hfin : SqI w w.heap.size g N (k + 1) (w2.setCell ⟨w.heap.size, 0, none⟩ (.slice q1 (k + 1) qc1)) := by
      refine ⟨nw_set hbw (p := ⟨w.heap.size, 0, none⟩) (Nat.le_refl _) _, _, ?_, ownsRow_setCell_other (a := ⟨w.heap.size, 0, none⟩) hown2 (not_own hown2 hb2 (by decide)) _⟩
      have := hb2.set 0 (.slice q1 (k + 1) qc1)
      simpa using this
    have hoth : KeepsOthers W (w2.setCell ⟨w.heap.size, 0, none⟩ (.slice q1 (k + 1) qc1)) := ((oth_below hX).trans (KeepsOthers.of_grownBy hgrow (fun j o hj ho => by
      obtain ⟨g2, c2, cur, e2, -, hg2, -⟩ := hoX.2.resolve_left (fun e => by rw [e.1] at hj; cases hj)
      rw [e2, ownBlock_mk] at hj
      obtain rfl := Option.some.inj hj
      rw [hg2] at ho
      cases ho; rfl))).trans (KeepsOthers.setCell _ _ _)
    have hkb : KeepB Bs Bn W (w2.setCell ⟨w.heap.size, 0, none⟩ (.slice q1 (k + 1) qc1)) := by
      have hz : w.heap.size ≤ W.heap.size := hsz
      have h1 : ∀ q, q < w.heap.size → (w2.setCell ⟨w.heap.size, 0, none⟩ (.slice q1 (k + 1) qc1)).heap[q]? = W.heap[q]? := fun q hq => by
        have e1 := hfin.below.block q hq
        have e2 := HS.out.below.block q hq
        rw [e1, e2]
      exact ⟨h1 Bs hBs, h1 Bn hBn⟩
    have HF := Lib.hid hfin
    have HOT := Lib.hid hoth
    have HKB := Lib.hid hkb
    clear hown' hown2 hgrow hX hbX hoX hb2 hbw hfin hoth hkb
    gi_wp2
    exact ⟨HOT.out.from _, HKB.out, HF.out⟩
  case done =>
    rintro D W hD hi hK
    obtain ⟨u, hbl, hown⟩ := hi.blk
    obtain ⟨up, uc, hu⟩ : ∃ up uc, u = .slice up ((N + 19) / 20) uc := by
      rcases hown.2 with ⟨rfl, h0⟩ | ⟨g1, c1, cur, rfl, -⟩
      · exact ⟨none, 0, by rw [h0]⟩
      · exact ⟨_, _, rfl⟩
    subst hu
    have c0 := hbl.cell 0
    have hlt : Lt w.heap.size W.heap.size := hbl.lt
    simp only [List.getElem?_toArray, List.getElem?_cons_zero] at c0
    have HS := Lib.hid hi
    have HO := Lib.hid hown
    clear hi hbl hown hc hc2
    gi_wp2
    refine ⟨by simp, .inl ⟨_, _, rfl, run_takeDeferred hK, ?_⟩⟩
    have hput := HS.out.put (Nat.le_trans (by simp) hD) hK rfl (.deferred none)
    exact ⟨_, results_tmp (t := 4) rfl _ _ _, .slice up ((N + 19) / 20) uc, rfl, own_put HO.out hK rfl _, hput.below⟩
set_option maxHeartbeats 1000000 in
theorem collect_any (w : World) (Bs Bn g cap N : Nat) (hN : N ≤ 100000) (hcap : N ≤ cap) (hBs : Bs < w.heap.size) (hBn : Bn < w.heap.size) (hc : w.cell? ⟨Bs, 0, none⟩ = some (.slice (some ⟨g, 0, none⟩) N cap)) (hc2 : w.cell? ⟨Bn, 0, none⟩ = some (.int .i64 20)) :
    Calls Try.prog 29 #[.func (.func 43) #[] #[.pointer (some ⟨Bs, 0, none⟩), .pointer (some ⟨Bn, 0, none⟩)]] w fun e w' => ∃ u, e = .returned u ∧ OwnP w.heap.size w' u g N ((N + 19) / 20) ∧ Below w.heap.size w w' := by
  go_enter Try.func29, Try.ntmps29
  go_wp2_with fail
  refine (appendSeq_any _ Bs Bn g cap N hN hcap hBs hBn hc hc2).mono ?_
  rintro e w' ⟨u, rfl, h1, h2⟩
  have H1 := Lib.hid h1
  have H2 := Lib.hid h2
  clear h1 h2
  go_wp2
  go_ret
  exact ⟨u, rfl, H1.out, H2.out⟩
end Go.Proofs.Ytaelgappabecgaa
