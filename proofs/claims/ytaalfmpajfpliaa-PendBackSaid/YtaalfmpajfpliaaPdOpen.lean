/- Layer 10's argument, opened with its sizes. No condition. -/
import Derived.Test.YtaalfmpajfpliaaRows
import Derived.Test.YtaalfmpajfpliaaPdMem
import Derived.ProofKit
import Derived.Deep.Slices
import Derived.Deep.Strs
import Derived.Lib.SmallJoins
import Derived.SizedLaws
namespace Go.Proofs.Ytaalfmpajfpliaa
open Go.ChangeShapes Go.WideShapes Go.ChangeAt Go.RowKit Go.Deep Go.Joins

theorem own : ownKnob Try.prog.godebug = none := by kernel_rfl
theorem laidOut : laidOutB Try.prog = true := by kernel_rfl
theorem cell_lt4 {w : World} {a : Addr} {v : Value} (h : w.cell? a = some v) : a.block < w.heap.size := by
  unfold World.cell? at h
  cases e : w.heap[a.block]? with
  | none => rw [e] at h; cases h
  | some o => exact (Array.getElem?_eq_some_iff.1 e).1

section
variable {H : Type} {enc : TypeId × Value → H} {P : Program} {w : World}

theorem weights_all {e : TypeId} {ds : List (DataW H)} {d : DataW H} {n : Nat} (hd : d ∈ ds) (hn : n ∈ d.weights P e) : n ∈ DataW.weightsAll P e ds := by
  induction ds with
  | nil => cases hd
  | cons y r ih =>
    simp only [DataW.weightsAll, List.mem_append]
    rcases List.mem_cons.1 hd with rfl | hd
    · exact .inl hn
    · exact .inr (ih hd)
/-- Each slice in it takes no more than the reach. -/
def Sized (P : Program) (t : TypeId) (d : DataW H) : Prop := ∀ n ∈ d.weights P t, n ≤ reachBytes
theorem sized_parts {t e : TypeId} {el sp : List (DataW H)} (hu : P.underlying t = some (.slice e)) (hb : 1 ≤ P.bytesOf e) (h : Sized P t (.slice el sp)) : el.length ≤ reachBytes ∧ ∀ d ∈ el, Sized P e d := by
  constructor
  · have := h ((el.length + sp.length) * P.bytesOf e) (by simp [DataW.weights, hu])
    exact Nat.le_trans (Nat.le_trans (Nat.le_add_right _ sp.length) (Nat.le_mul_of_pos_right _ hb)) this
  · intro d hd n hn
    exact h n (by simp only [DataW.weights, hu, List.mem_cons, List.mem_append]; exact .inr (.inl (weights_all hd hn)))
theorem sized_two {t : TypeId} {f0 f1 : Field} {d0 d1 : DataW H} (hu : P.underlying t = some (.struct #[f0, f1])) (h : Sized P t (.agg [d0, d1])) : Sized P f0.type d0 ∧ Sized P f1.type d1 := by
  have key : ∀ n, n ∈ d0.weights P f0.type ∨ n ∈ d1.weights P f1.type → n ≤ reachBytes := fun n hn => h n (by
    simp only [DataW.weights, hu, DataW.weightsEach, List.map_cons, List.map_nil, List.mem_append, List.append_nil]
    exact hn)
  exact ⟨fun n hn => key n (.inl hn), fun n hn => key n (.inr hn)⟩
theorem sized_three {t : TypeId} {f0 f1 f2 : Field} {d0 d1 d2 : DataW H} (hu : P.underlying t = some (.struct #[f0, f1, f2])) (h : Sized P t (.agg [d0, d1, d2])) : Sized P f0.type d0 ∧ Sized P f1.type d1 ∧ Sized P f2.type d2 := by
  have key : ∀ n, n ∈ d0.weights P f0.type ∨ n ∈ d1.weights P f1.type ∨ n ∈ d2.weights P f2.type → n ≤ reachBytes := fun n hn => h n (by
    simp only [DataW.weights, hu, DataW.weightsEach, List.map_cons, List.map_nil, List.mem_append, List.append_nil]
    exact hn)
  exact ⟨fun n hn => key n (.inl hn), fun n hn => key n (.inr (.inl hn)), fun n hn => key n (.inr (.inr hn))⟩
theorem sized_four {t : TypeId} {f0 f1 f2 f3 : Field} {d0 d1 d2 d3 : DataW H} (hu : P.underlying t = some (.struct #[f0, f1, f2, f3])) (h : Sized P t (.agg [d0, d1, d2, d3])) : Sized P f0.type d0 ∧ Sized P f1.type d1 ∧ Sized P f2.type d2 ∧ Sized P f3.type d3 := by
  have key : ∀ n, n ∈ d0.weights P f0.type ∨ n ∈ d1.weights P f1.type ∨ n ∈ d2.weights P f2.type ∨ n ∈ d3.weights P f3.type → n ≤ reachBytes := fun n hn => h n (by
    simp only [DataW.weights, hu, DataW.weightsEach, List.map_cons, List.map_nil, List.mem_append, List.append_nil]
    exact hn)
  exact ⟨fun n hn => key n (.inl hn), fun n hn => key n (.inr (.inl hn)), fun n hn => key n (.inr (.inr (.inl hn))), fun n hn => key n (.inr (.inr (.inr hn)))⟩
theorem sized_str {t : TypeId} {s : ByteArray} (h : Sized P t (.lit (.string s.data.toList) : DataW H)) : s.size ≤ 140737488355328 := by
  have := h s.data.toList.length (by rw [DataW.weights]; exact List.mem_singleton.2 rfl)
  have e : s.data.toList.length = s.size := rfl
  rw [e] at this
  exact Nat.le_trans this (by decide)

/-- One write, read out of its four cells. -/
theorem write_open {e : TypeId} {f0 f1 f2 f3 : Field} {fuel : Nat} {c0 c1 c2 c3 : Value} {x : DataW H × List MemPlace} (he : P.underlying e = some (.struct #[f0, f1, f2, f3]))
    (ho : f0.offset = 0 ∧ f1.offset = 1 ∧ f2.offset = 2 ∧ f3.offset = 3) (hk : P.cellsOf f0.type = 1 ∧ P.cellsOf f1.type = 1 ∧ P.cellsOf f2.type = 1 ∧ P.cellsOf f3.type = 1)
    (h0 : P.underlying f0.type = some (.int .i64)) (h1 : P.underlying f1.type = some .string) (h2 : P.underlying f2.type = some .string) (h3 : P.underlying f3.type = some .bool)
    (h : DataW.trod enc P w 0 (fun _ => true) true fuel e [c0, c1, c2, c3] = some x) (hs : Sized P e x.1) : ∃ r : Wr, c0 = .int .i64 r.t ∧ c1 = .string r.k ∧ c2 = .string r.s ∧ c3 = .bool r.g ∧ r.k.size ≤ 140737488355328 ∧ r.s.size ≤ 140737488355328 := by
  obtain ⟨y0, y1, y2, y3, n', hxy, -, t0, t1, t2, t3⟩ := trod_struct4 he h
  have hDi : x.1 = .agg [y0.1, y1.1, y2.1, y3.1] := congrArg Prod.fst hxy
  rw [hDi] at hs
  obtain ⟨-, s1, s2, -⟩ := sized_four he hs
  rw [ho.1, hk.1] at t0
  rw [ho.2.1, hk.2.1] at t1
  rw [ho.2.2.1, hk.2.2.1] at t2
  rw [ho.2.2.2, hk.2.2.2] at t3
  obtain ⟨n0, e0, -, -⟩ := DataW.trod_int h0 t0
  obtain ⟨k1, e1, d1, -⟩ := DataW.trod_string h1 t1
  obtain ⟨k2, e2, d2, -⟩ := DataW.trod_string h2 t2
  obtain ⟨b3, e3, -⟩ := DataW.trod_bool h3 t3
  have d1' : y1.1 = .lit (.string k1.data.toList) := congrArg Prod.fst d1
  have d2' : y2.1 = .lit (.string k2.data.toList) := congrArg Prod.fst d2
  rw [d1'] at s1
  rw [d2'] at s2
  simp only [List.drop, List.take, List.cons.injEq, and_true] at e0 e1 e2 e3
  exact ⟨⟨n0, k1, k2, b3⟩, e0, e1, e2, e3, sized_str s1, sized_str s2⟩

theorem writes_open {t e : TypeId} {f0 f1 f2 f3 : Field} {fuel : Nat} {v : Value} {x : DataW H × List MemPlace} (ht : P.underlying t = some (.slice e)) (he : P.underlying e = some (.struct #[f0, f1, f2, f3])) (hc : P.cellsOf e = 4) (hb : 1 ≤ P.bytesOf e)
    (ho : f0.offset = 0 ∧ f1.offset = 1 ∧ f2.offset = 2 ∧ f3.offset = 3) (hk : P.cellsOf f0.type = 1 ∧ P.cellsOf f1.type = 1 ∧ P.cellsOf f2.type = 1 ∧ P.cellsOf f3.type = 1)
    (h0 : P.underlying f0.type = some (.int .i64)) (h1 : P.underlying f1.type = some .string) (h2 : P.underlying f2.type = some .string) (h3 : P.underlying f3.type = some .bool)
    (h : DataW.trod enc P w 0 (fun _ => true) true fuel t [v] = some x) (hs : Sized P t x.1) : ∃ l, WsAt w v l := by
  rcases open_slice ht h with ⟨hcs, -⟩ | ⟨a, len, cap, m, n, D, Pl, hcs, -, hl, hm, hmm, hx, hi⟩
  · simp only [List.cons.injEq, and_true] at hcs
    exact ⟨[], by rw [hcs]; exact WsAt.nil _ _ _⟩
  · simp only [List.cons.injEq, and_true] at hcs
    simp only [if_true] at hmm
    subst hmm
    rw [hc] at hi
    rw [hx] at hs
    have hp := sized_parts ht hb hs
    have hlen : len ≤ 140737488355328 := by
      have := hp.1
      rw [List.length_map, List.length_range] at this
      exact Nat.le_trans this (by decide)
    have hex : ∀ i, i < len → ∃ r : Wr, w.cell? (a.add (i * 4)) = some (.int .i64 r.t) ∧ w.cell? ((a.add (i * 4)).add 1) = some (.string r.k) ∧ w.cell? ((a.add (i * 4)).add 2) = some (.string r.s) ∧ w.cell? ((a.add (i * 4)).add 3) = some (.bool r.g) ∧ r.k.size ≤ 140737488355328 ∧ r.s.size ≤ 140737488355328 := by
      intro i hil
      obtain ⟨cs', hc', ht'⟩ := hi i (by omega)
      have hsz := hp.2 (D i) (List.mem_map.2 ⟨i, List.mem_range.2 hil, rfl⟩)
      obtain ⟨-, hcl, hat⟩ := World.cells?_some hc'
      match cs', hcl with
      | [c0, c1, c2, c3], _ =>
        obtain ⟨r, e0, e1, e2, e3, z1, z2⟩ := write_open he ho hk h0 h1 h2 h3 ht' hsz
        have g0 := hat 0 (by omega)
        have g1 := hat 1 (by omega)
        have g2 := hat 2 (by omega)
        have g3 := hat 3 (by omega)
        refine ⟨r, ?_, ?_, ?_, ?_, z1, z2⟩
        · simpa [Addr.add, e0] using g0
        · simpa [e1] using g1
        · simpa [e2] using g2
        · simpa [e3] using g3
    obtain ⟨R, hR⟩ := choose_lt (α := Wr) hex
    refine ⟨(List.range len).map R, by simpa using hlen, fun y hy => ?_, some a, m, by simpa using hcs, by simpa using hl, fun i hil => ?_⟩
    · obtain ⟨i, hi, rfl⟩ := List.mem_map.1 hy
      exact (hR i (List.mem_range.1 hi)).2.2.2.2
    · rw [List.length_map, List.length_range] at hil
      obtain ⟨b, off, spot⟩ := a
      have g0 := (hR 0 (by omega)).1
      have hsp : spot = none := by have := World.cell?_spot g0; simpa [Addr.add] using this
      subst hsp
      obtain ⟨k0, k1, k2, k3, -⟩ := hR i hil
      rw [add_none] at k0 k1 k2 k3
      rw [add_none] at k1 k2 k3
      have hg : ((List.range len).map R).getD i default = R i := by simp [List.getD, List.getElem?_map, List.getElem?_range hil]
      rw [hg]
      exact ⟨b, off, rfl, cell_lt4 k0, k0, k1, k2, k3⟩

theorem ints_open {t e : TypeId} {fuel : Nat} {v : Value} {x : DataW H × List MemPlace} (ht : P.underlying t = some (.slice e)) (he : P.underlying e = some (.int .i64)) (hc : P.cellsOf e = 1) (hb : 1 ≤ P.bytesOf e)
    (h : DataW.trod enc P w 0 (fun _ => true) true fuel t [v] = some x) (hs : Sized P t x.1) : ∃ l, IntsBig w v l := by
  rcases open_slice1 ht hc h with ⟨hcs, -⟩ | ⟨a, len, cap, m, n, V, D, Pl, hcs, -, hl, hm, hmm, hx, hi⟩
  · simp only [List.cons.injEq, and_true] at hcs
    exact ⟨[], Nat.zero_le _, none, 0, hcs, Nat.zero_le _, fun i hi => absurd hi (Nat.not_lt_zero _)⟩
  · simp only [List.cons.injEq, and_true] at hcs
    simp only [if_true] at hmm
    subst hmm
    rw [hx] at hs
    have hp := sized_parts ht hb hs
    have hlen : len ≤ 140737488355328 := by
      have := hp.1
      rw [List.length_map, List.length_range] at this
      exact Nat.le_trans this (by decide)
    have hex : ∀ i, i < len → ∃ n : Int, w.cell? (a.add i) = some (.int .i64 n) := by
      intro i hil
      obtain ⟨h1, h2⟩ := hi i (by omega)
      obtain ⟨n0, hn1, -, -⟩ := DataW.trod_int he h2
      simp only [List.cons.injEq, and_true] at hn1
      exact ⟨n0, by rw [h1, hn1]⟩
    obtain ⟨R, hR⟩ := choose_lt (α := Int) hex
    refine ⟨(List.range len).map R, by simpa using hlen, some a, m, by simpa using hcs, by simpa using hl, fun i hil => ?_⟩
    rw [List.length_map, List.length_range] at hil
    obtain ⟨b, off, spot⟩ := a
    have g0 := hR 0 (by omega)
    have hsp : spot = none := by have := World.cell?_spot g0; simpa [Addr.add] using this
    subst hsp
    have k0 := hR i hil
    rw [add_none] at k0
    have hg : ((List.range len).map R).getD i 0 = R i := by simp [List.getD, List.getElem?_map, List.getElem?_range hil]
    rw [hg]
    exact ⟨b, off, rfl, cell_lt4 k0, k0⟩

theorem acts_open {t e : TypeId} {q0 q1 q2 f0 f1 f2 f3 : Field} {fuel : Nat} {v : Value} {x : DataW H × List MemPlace} (ht : P.underlying t = some (.slice e)) (hq : P.underlying e = some (.struct #[q0, q1, q2])) (hc : P.cellsOf e = 6) (hb : 1 ≤ P.bytesOf e)
    (hqo : q1.offset = 1 ∧ q2.offset = 2) (hqk : P.cellsOf q1.type = 1 ∧ P.cellsOf q2.type = 4) (hq1 : P.underlying q1.type = some (.int .i64)) (he : P.underlying q2.type = some (.struct #[f0, f1, f2, f3]))
    (ho : f0.offset = 0 ∧ f1.offset = 1 ∧ f2.offset = 2 ∧ f3.offset = 3) (hk : P.cellsOf f0.type = 1 ∧ P.cellsOf f1.type = 1 ∧ P.cellsOf f2.type = 1 ∧ P.cellsOf f3.type = 1)
    (h0 : P.underlying f0.type = some (.int .i64)) (h1 : P.underlying f1.type = some .string) (h2 : P.underlying f2.type = some .string) (h3 : P.underlying f3.type = some .bool)
    (h : DataW.trod enc P w 0 (fun _ => true) true fuel t [v] = some x) (hs : Sized P t x.1) : ∃ N f, AcsAt w v N f := by
  rcases open_slice ht h with ⟨hcs, -⟩ | ⟨a, len, cap, m, n, D, Pl, hcs, -, hl, hm, hmm, hx, hi⟩
  · simp only [List.cons.injEq, and_true] at hcs
    exact ⟨0, fun _ => default, Nat.zero_le _, none, 0, hcs, fun i hi => absurd hi (Nat.not_lt_zero _)⟩
  · simp only [List.cons.injEq, and_true] at hcs
    simp only [if_true] at hmm
    subst hmm
    rw [hc] at hi
    rw [hx] at hs
    have hp := sized_parts ht hb hs
    have hlen : len ≤ 140737488355328 := by
      have := hp.1
      rw [List.length_map, List.length_range] at this
      exact Nat.le_trans this (by decide)
    have hex : ∀ i, i < len → ∃ r : Ac × Value, w.cell? (a.add (i * 6)) = some r.2 ∧ w.cell? ((a.add (i * 6)).add 1) = some (.int .i64 r.1.n) ∧ w.cell? ((a.add (i * 6)).add 2) = some (.int .i64 r.1.x.t) ∧ w.cell? ((a.add (i * 6)).add 3) = some (.string r.1.x.k) ∧ w.cell? ((a.add (i * 6)).add 4) = some (.string r.1.x.s) ∧ w.cell? ((a.add (i * 6)).add 5) = some (.bool r.1.x.g) ∧ r.1.x.k.size ≤ 140737488355328 ∧ r.1.x.s.size ≤ 140737488355328 := by
      intro i hil
      obtain ⟨cs', hc', ht'⟩ := hi i (by omega)
      obtain ⟨y0, y1, y2, n', hxy, hlen', t0, t1, t2⟩ := trod_struct3 hq ht'
      have hDi : D i = .agg [y0.1, y1.1, y2.1] := congrArg Prod.fst hxy
      have hsz := hp.2 (D i) (List.mem_map.2 ⟨i, List.mem_range.2 hil, rfl⟩)
      rw [hDi] at hsz
      have hs2 := (sized_three hq hsz).2.2
      obtain ⟨-, hcl, hat⟩ := World.cells?_some hc'
      rw [hqo.1, hqk.1] at t1
      rw [hqo.2, hqk.2] at t2
      match cs', hcl with
      | [z, zn, c0, c1, c2, c3], _ =>
        simp only [List.drop, List.take] at t1 t2
        obtain ⟨n0, en, -, -⟩ := DataW.trod_int hq1 t1
        simp only [List.cons.injEq, and_true] at en
        obtain ⟨r, e0, e1, e2, e3, z1, z2⟩ := write_open he ho hk h0 h1 h2 h3 t2 hs2
        have g0 := hat 0 (by omega)
        have g1 := hat 1 (by omega)
        have g2 := hat 2 (by omega)
        have g3 := hat 3 (by omega)
        have g4 := hat 4 (by omega)
        have g5 := hat 5 (by omega)
        refine ⟨(⟨0, n0, r⟩, z), ?_, ?_, ?_, ?_, ?_, ?_, z1, z2⟩
        · simpa [Addr.add] using g0
        · simpa [en] using g1
        · simpa [e0] using g2
        · simpa [e1] using g3
        · simpa [e2] using g4
        · simpa [e3] using g5
    obtain ⟨R, hR⟩ := choose_lt (α := Ac × Value) hex
    refine ⟨len, fun i => (R i).1, hlen, some a, m, hcs, fun i hil => ?_⟩
    obtain ⟨b, off, spot⟩ := a
    have g0 := (hR 0 (by omega)).1
    have hsp : spot = none := by have := World.cell?_spot g0; simpa [Addr.add] using this
    subst hsp
    obtain ⟨-, k1, k2, k3, k4, k5, k6, k7⟩ := hR i hil
    rw [add_none] at k1 k2 k3 k4 k5
    rw [add_none] at k1 k2 k3 k4 k5
    exact ⟨b, off, rfl, cell_lt4 k1, k1, k2, k3, k4, k5, k6, k7⟩
end
end Go.Proofs.Ytaalfmpajfpliaa
