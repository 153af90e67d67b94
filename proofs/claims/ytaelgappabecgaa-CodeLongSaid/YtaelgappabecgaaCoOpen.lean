/- Layer 17's argument, opened with its sizes. No condition. -/
import Derived.Test.YtaelgappabecgaaRows
import Derived.Test.YtaelgappabecgaaCoHv
import Derived.ProofKit
import Derived.Deep.Slices
import Derived.Deep.Strs
import Derived.Lib.SmallJoins
import Derived.SizedLaws
namespace Go.Proofs.Ytaelgappabecgaa
open Go.ChangeShapes Go.WideShapes Go.ChangeAt Go.RowKit Go.Deep Go.Joins

theorem own : ownKnob Try.prog.godebug = none := by kernel_rfl
theorem laidOut : laidOutB Try.prog = true := by kernel_rfl
theorem cell_lt4 {w : World} {a : Addr} {v : Value} (h : w.cell? a = some v) : a.block < w.heap.size := by
  unfold World.cell? at h
  cases e : w.heap[a.block]? with
  | none => rw [e] at h; cases h
  | some o => exact (Array.getElem?_eq_some_iff.1 e).1

section
variable {H : Type} {enc : TypeId × Value → H} {P : Program} {w : World}

theorem weights_all {e : TypeId} {ds : List (DataW H)} {d : DataW H} {n : Nat} (hd : d ∈ ds) (hn : n ∈ d.weights P e) : n ∈ DataW.weightsAll P e ds := by
  induction ds with
  | nil => cases hd
  | cons y r ih =>
    simp only [DataW.weightsAll, List.mem_append]
    rcases List.mem_cons.1 hd with rfl | hd
    · exact .inl hn
    · exact .inr (ih hd)
/-- Each slice in it takes no more than the reach. -/
def Sized (P : Program) (t : TypeId) (d : DataW H) : Prop := ∀ n ∈ d.weights P t, n ≤ reachBytes
theorem sized_parts {t e : TypeId} {el sp : List (DataW H)} (hu : P.underlying t = some (.slice e)) (hb : 1 ≤ P.bytesOf e) (h : Sized P t (.slice el sp)) : el.length ≤ reachBytes ∧ ∀ d ∈ el, Sized P e d := by
  constructor
  · have := h ((el.length + sp.length) * P.bytesOf e) (by simp [DataW.weights, hu])
    exact Nat.le_trans (Nat.le_trans (Nat.le_add_right _ sp.length) (Nat.le_mul_of_pos_right _ hb)) this
  · intro d hd n hn
    exact h n (by simp only [DataW.weights, hu, List.mem_cons, List.mem_append]; exact .inr (.inl (weights_all hd hn)))
theorem sized_two {t : TypeId} {f0 f1 : Field} {d0 d1 : DataW H} (hu : P.underlying t = some (.struct #[f0, f1])) (h : Sized P t (.agg [d0, d1])) : Sized P f0.type d0 ∧ Sized P f1.type d1 := by
  have key : ∀ n, n ∈ d0.weights P f0.type ∨ n ∈ d1.weights P f1.type → n ≤ reachBytes := fun n hn => h n (by
    simp only [DataW.weights, hu, DataW.weightsEach, List.map_cons, List.map_nil, List.mem_append, List.append_nil]
    exact hn)
  exact ⟨fun n hn => key n (.inl hn), fun n hn => key n (.inr hn)⟩
theorem sized_three {t : TypeId} {f0 f1 f2 : Field} {d0 d1 d2 : DataW H} (hu : P.underlying t = some (.struct #[f0, f1, f2])) (h : Sized P t (.agg [d0, d1, d2])) : Sized P f0.type d0 ∧ Sized P f1.type d1 ∧ Sized P f2.type d2 := by
  have key : ∀ n, n ∈ d0.weights P f0.type ∨ n ∈ d1.weights P f1.type ∨ n ∈ d2.weights P f2.type → n ≤ reachBytes := fun n hn => h n (by
    simp only [DataW.weights, hu, DataW.weightsEach, List.map_cons, List.map_nil, List.mem_append, List.append_nil]
    exact hn)
  exact ⟨fun n hn => key n (.inl hn), fun n hn => key n (.inr (.inl hn)), fun n hn => key n (.inr (.inr hn))⟩
theorem sized_four {t : TypeId} {f0 f1 f2 f3 : Field} {d0 d1 d2 d3 : DataW H} (hu : P.underlying t = some (.struct #[f0, f1, f2, f3])) (h : Sized P t (.agg [d0, d1, d2, d3])) : Sized P f0.type d0 ∧ Sized P f1.type d1 ∧ Sized P f2.type d2 ∧ Sized P f3.type d3 := by
  have key : ∀ n, n ∈ d0.weights P f0.type ∨ n ∈ d1.weights P f1.type ∨ n ∈ d2.weights P f2.type ∨ n ∈ d3.weights P f3.type → n ≤ reachBytes := fun n hn => h n (by
    simp only [DataW.weights, hu, DataW.weightsEach, List.map_cons, List.map_nil, List.mem_append, List.append_nil]
    exact hn)
  exact ⟨fun n hn => key n (.inl hn), fun n hn => key n (.inr (.inl hn)), fun n hn => key n (.inr (.inr (.inl hn))), fun n hn => key n (.inr (.inr (.inr hn)))⟩
theorem sized_str {t : TypeId} {s : ByteArray} (h : Sized P t (.lit (.string s.data.toList) : DataW H)) : s.size ≤ 140737488355328 := by
  have := h s.data.toList.length (by rw [DataW.weights]; exact List.mem_singleton.2 rfl)
  have e : s.data.toList.length = s.size := rfl
  rw [e] at this
  exact Nat.le_trans this (by decide)

/-- One write, read out of its four cells. -/
theorem write_open {e : TypeId} {f0 f1 f2 f3 : Field} {fuel : Nat} {c0 c1 c2 c3 : Value} {x : DataW H × List MemPlace} (he : P.underlying e = some (.struct #[f0, f1, f2, f3]))
    (ho : f0.offset = 0 ∧ f1.offset = 1 ∧ f2.offset = 2 ∧ f3.offset = 3) (hk : P.cellsOf f0.type = 1 ∧ P.cellsOf f1.type = 1 ∧ P.cellsOf f2.type = 1 ∧ P.cellsOf f3.type = 1)
    (h0 : P.underlying f0.type = some (.int .i64)) (h1 : P.underlying f1.type = some .string) (h2 : P.underlying f2.type = some .string) (h3 : P.underlying f3.type = some .bool)
    (h : DataW.trod enc P w 0 (fun _ => true) true fuel e [c0, c1, c2, c3] = some x) (hs : Sized P e x.1) : ∃ r : Wr, c0 = .int .i64 r.t ∧ c1 = .string r.k ∧ c2 = .string r.s ∧ c3 = .bool r.g ∧ r.k.size ≤ 140737488355328 ∧ r.s.size ≤ 140737488355328 := by
  obtain ⟨y0, y1, y2, y3, n', hxy, -, t0, t1, t2, t3⟩ := trod_struct4 he h
  have hDi : x.1 = .agg [y0.1, y1.1, y2.1, y3.1] := congrArg Prod.fst hxy
  rw [hDi] at hs
  obtain ⟨-, s1, s2, -⟩ := sized_four he hs
  rw [ho.1, hk.1] at t0
  rw [ho.2.1, hk.2.1] at t1
  rw [ho.2.2.1, hk.2.2.1] at t2
  rw [ho.2.2.2, hk.2.2.2] at t3
  obtain ⟨n0, e0, -, -⟩ := DataW.trod_int h0 t0
  obtain ⟨k1, e1, d1, -⟩ := DataW.trod_string h1 t1
  obtain ⟨k2, e2, d2, -⟩ := DataW.trod_string h2 t2
  obtain ⟨b3, e3, -⟩ := DataW.trod_bool h3 t3
  have d1' : y1.1 = .lit (.string k1.data.toList) := congrArg Prod.fst d1
  have d2' : y2.1 = .lit (.string k2.data.toList) := congrArg Prod.fst d2
  rw [d1'] at s1
  rw [d2'] at s2
  simp only [List.drop, List.take, List.cons.injEq, and_true] at e0 e1 e2 e3
  exact ⟨⟨n0, k1, k2, b3⟩, e0, e1, e2, e3, sized_str s1, sized_str s2⟩

theorem writes_open {t e : TypeId} {f0 f1 f2 f3 : Field} {fuel : Nat} {v : Value} {x : DataW H × List MemPlace} (ht : P.underlying t = some (.slice e)) (he : P.underlying e = some (.struct #[f0, f1, f2, f3])) (hc : P.cellsOf e = 4) (hb : 1 ≤ P.bytesOf e)
    (ho : f0.offset = 0 ∧ f1.offset = 1 ∧ f2.offset = 2 ∧ f3.offset = 3) (hk : P.cellsOf f0.type = 1 ∧ P.cellsOf f1.type = 1 ∧ P.cellsOf f2.type = 1 ∧ P.cellsOf f3.type = 1)
    (h0 : P.underlying f0.type = some (.int .i64)) (h1 : P.underlying f1.type = some .string) (h2 : P.underlying f2.type = some .string) (h3 : P.underlying f3.type = some .bool)
    (h : DataW.trod enc P w 0 (fun _ => true) true fuel t [v] = some x) (hs : Sized P t x.1) : ∃ l, WsAt w v l := by
  rcases open_slice ht h with ⟨hcs, -⟩ | ⟨a, len, cap, m, n, D, Pl, hcs, -, hl, hm, hmm, hx, hi⟩
  · simp only [List.cons.injEq, and_true] at hcs
    exact ⟨[], by rw [hcs]; exact WsAt.nil _ _ _⟩
  · simp only [List.cons.injEq, and_true] at hcs
    simp only [if_true] at hmm
    subst hmm
    rw [hc] at hi
    rw [hx] at hs
    have hp := sized_parts ht hb hs
    have hlen : len ≤ 140737488355328 := by
      have := hp.1
      rw [List.length_map, List.length_range] at this
      exact Nat.le_trans this (by decide)
    have hex : ∀ i, i < len → ∃ r : Wr, w.cell? (a.add (i * 4)) = some (.int .i64 r.t) ∧ w.cell? ((a.add (i * 4)).add 1) = some (.string r.k) ∧ w.cell? ((a.add (i * 4)).add 2) = some (.string r.s) ∧ w.cell? ((a.add (i * 4)).add 3) = some (.bool r.g) ∧ r.k.size ≤ 140737488355328 ∧ r.s.size ≤ 140737488355328 := by
      intro i hil
      obtain ⟨cs', hc', ht'⟩ := hi i (by omega)
      have hsz := hp.2 (D i) (List.mem_map.2 ⟨i, List.mem_range.2 hil, rfl⟩)
      obtain ⟨-, hcl, hat⟩ := World.cells?_some hc'
      match cs', hcl with
      | [c0, c1, c2, c3], _ =>
        obtain ⟨r, e0, e1, e2, e3, z1, z2⟩ := write_open he ho hk h0 h1 h2 h3 ht' hsz
        have g0 := hat 0 (by omega)
        have g1 := hat 1 (by omega)
        have g2 := hat 2 (by omega)
        have g3 := hat 3 (by omega)
        refine ⟨r, ?_, ?_, ?_, ?_, z1, z2⟩
        · simpa [Addr.add, e0] using g0
        · simpa [e1] using g1
        · simpa [e2] using g2
        · simpa [e3] using g3
    obtain ⟨R, hR⟩ := choose_lt (α := Wr) hex
    refine ⟨(List.range len).map R, by simpa using hlen, fun y hy => ?_, some a, m, by simpa using hcs, by simpa using hl, fun i hil => ?_⟩
    · obtain ⟨i, hi, rfl⟩ := List.mem_map.1 hy
      exact (hR i (List.mem_range.1 hi)).2.2.2.2
    · rw [List.length_map, List.length_range] at hil
      obtain ⟨b, off, spot⟩ := a
      have g0 := (hR 0 (by omega)).1
      have hsp : spot = none := by have := World.cell?_spot g0; simpa [Addr.add] using this
      subst hsp
      obtain ⟨k0, k1, k2, k3, -⟩ := hR i hil
      rw [add_none] at k0 k1 k2 k3
      rw [add_none] at k1 k2 k3
      have hg : ((List.range len).map R).getD i default = R i := by simp [List.getD, List.getElem?_map, List.getElem?_range hil]
      rw [hg]
      exact ⟨b, off, rfl, cell_lt4 k0, k0, k1, k2, k3⟩

theorem ints_open {t e : TypeId} {fuel : Nat} {v : Value} {x : DataW H × List MemPlace} (ht : P.underlying t = some (.slice e)) (he : P.underlying e = some (.int .i64)) (hc : P.cellsOf e = 1) (hb : 1 ≤ P.bytesOf e)
    (h : DataW.trod enc P w 0 (fun _ => true) true fuel t [v] = some x) (hs : Sized P t x.1) : ∃ l, IntsBig w v l := by
  rcases open_slice1 ht hc h with ⟨hcs, -⟩ | ⟨a, len, cap, m, n, V, D, Pl, hcs, -, hl, hm, hmm, hx, hi⟩
  · simp only [List.cons.injEq, and_true] at hcs
    exact ⟨[], Nat.zero_le _, none, 0, hcs, Nat.zero_le _, fun i hi => absurd hi (Nat.not_lt_zero _)⟩
  · simp only [List.cons.injEq, and_true] at hcs
    simp only [if_true] at hmm
    subst hmm
    rw [hx] at hs
    have hp := sized_parts ht hb hs
    have hlen : len ≤ 140737488355328 := by
      have := hp.1
      rw [List.length_map, List.length_range] at this
      exact Nat.le_trans this (by decide)
    have hex : ∀ i, i < len → ∃ n : Int, w.cell? (a.add i) = some (.int .i64 n) := by
      intro i hil
      obtain ⟨h1, h2⟩ := hi i (by omega)
      obtain ⟨n0, hn1, -, -⟩ := DataW.trod_int he h2
      simp only [List.cons.injEq, and_true] at hn1
      exact ⟨n0, by rw [h1, hn1]⟩
    obtain ⟨R, hR⟩ := choose_lt (α := Int) hex
    refine ⟨(List.range len).map R, by simpa using hlen, some a, m, by simpa using hcs, by simpa using hl, fun i hil => ?_⟩
    rw [List.length_map, List.length_range] at hil
    obtain ⟨b, off, spot⟩ := a
    have g0 := hR 0 (by omega)
    have hsp : spot = none := by have := World.cell?_spot g0; simpa [Addr.add] using this
    subst hsp
    have k0 := hR i hil
    rw [add_none] at k0
    have hg : ((List.range len).map R).getD i 0 = R i := by simp [List.getD, List.getElem?_map, List.getElem?_range hil]
    rw [hg]
    exact ⟨b, off, rfl, cell_lt4 k0, k0⟩

theorem strs_open {t e : TypeId} {fuel : Nat} {v : Value} {x : DataW H × List MemPlace} (ht : P.underlying t = some (.slice e)) (he : P.underlying e = some .string) (hc : P.cellsOf e = 1) (hb : 1 ≤ P.bytesOf e)
    (h : DataW.trod enc P w 0 (fun _ => true) true fuel t [v] = some x) (hs : Sized P t x.1) : ∃ S, SsAt w v S := by
  rcases open_slice1 ht hc h with ⟨hcs, -⟩ | ⟨a, len, cap, m, n, V, D, Pl, hcs, -, hl, hm, hmm, hx, hi⟩
  · simp only [List.cons.injEq, and_true] at hcs
    exact ⟨[], by rw [hcs]; exact SsAt.nil _ _ _⟩
  · simp only [List.cons.injEq, and_true] at hcs
    simp only [if_true] at hmm
    subst hmm
    rw [hx] at hs
    have hp := sized_parts ht hb hs
    have hlen : len ≤ 140737488355328 := by
      have := hp.1
      rw [List.length_map, List.length_range] at this
      exact Nat.le_trans this (by decide)
    have hex : ∀ i, i < len → ∃ s : ByteArray, w.cell? (a.add i) = some (.string s) ∧ s.size ≤ 140737488355328 := by
      intro i hil
      obtain ⟨h1, h2⟩ := hi i (by omega)
      obtain ⟨s, hs1, hd, -⟩ := DataW.trod_string he h2
      simp only [List.cons.injEq, and_true] at hs1
      have hsz := hp.2 (D i) (List.mem_map.2 ⟨i, List.mem_range.2 hil, rfl⟩)
      simp only [Prod.mk.injEq] at hd
      rw [hd.1] at hsz
      exact ⟨s, by rw [h1, hs1], sized_str hsz⟩
    obtain ⟨R, hR⟩ := choose_lt (α := ByteArray) hex
    refine ⟨(List.range len).map R, by simpa using hlen, fun y hy => ?_, some a, m, by simpa using hcs, by simpa using hl, fun i hil => ?_⟩
    · obtain ⟨i, hi, rfl⟩ := List.mem_map.1 hy
      exact (hR i (List.mem_range.1 hi)).2
    · rw [List.length_map, List.length_range] at hil
      obtain ⟨b, off, spot⟩ := a
      have g0 := (hR 0 (by omega)).1
      have hsp : spot = none := by have := World.cell?_spot g0; simpa [Addr.add] using this
      subst hsp
      have k0 := (hR i hil).1
      rw [add_none] at k0
      have hg : ((List.range len).map R).getD i E0 = R i := by simp [List.getD, List.getElem?_map, List.getElem?_range hil]
      rw [hg]
      exact ⟨b, off, rfl, cell_lt4 k0, k0⟩

theorem lists_open {t s e : TypeId} {fuel : Nat} {v : Value} {x : DataW H × List MemPlace} (ht : P.underlying t = some (.slice s)) (hc : P.cellsOf s = 1) (hb : 1 ≤ P.bytesOf s) (hs2 : P.underlying s = some (.slice e)) (he : P.underlying e = some .string) (hce : P.cellsOf e = 1) (hbe : 1 ≤ P.bytesOf e)
    (h : DataW.trod enc P w 0 (fun _ => true) true fuel t [v] = some x) (hs : Sized P t x.1) : ∃ Q, LsAt w v Q := by
  rcases open_slice1 ht hc h with ⟨hcs, -⟩ | ⟨a, len, cap, m, n, V, D, Pl, hcs, -, hl, hm, hmm, hx, hi⟩
  · simp only [List.cons.injEq, and_true] at hcs
    exact ⟨[], Nat.zero_le _, ⟨none, 0, hcs, fun i hi => absurd hi (Nat.not_lt_zero _)⟩, fun y hy => by cases hy⟩
  · simp only [List.cons.injEq, and_true] at hcs
    simp only [if_true] at hmm
    subst hmm
    rw [hx] at hs
    have hp := sized_parts ht hb hs
    have hlen : len ≤ 140737488355328 := by
      have := hp.1
      rw [List.length_map, List.length_range] at this
      exact Nat.le_trans this (by decide)
    have hex : ∀ i, i < len → ∃ r : Value × List ByteArray, w.cell? (a.add i) = some r.1 ∧ SsAt w r.1 r.2 := by
      intro i hil
      obtain ⟨g1, g2⟩ := hi i (by omega)
      obtain ⟨S, hS⟩ := strs_open hs2 he hce hbe g2 (hp.2 (D i) (List.mem_map.2 ⟨i, List.mem_range.2 hil, rfl⟩))
      exact ⟨(V i, S), g1, hS⟩
    obtain ⟨R, hR⟩ := choose_lt (α := Value × List ByteArray) hex
    refine ⟨(List.range len).map R, by simpa using hlen, ⟨some a, m, by simpa using hcs, fun i hil => ?_⟩, fun y hy => ?_⟩
    · rw [List.length_map, List.length_range] at hil
      obtain ⟨b, off, spot⟩ := a
      have g0 := (hR 0 (by omega)).1
      have hsp : spot = none := by have := World.cell?_spot g0; simpa [Addr.add] using this
      subst hsp
      have k0 := (hR i hil).1
      rw [add_none] at k0
      have hg : ((List.range len).map R).getD i (.slice none 0 0, []) = R i := by simp [List.getD, List.getElem?_map, List.getElem?_range hil]
      rw [hg]
      exact ⟨b, off, rfl, cell_lt4 k0, k0⟩
    · obtain ⟨i, hi, rfl⟩ := List.mem_map.1 hy
      exact (hR i (List.mem_range.1 hi)).2

theorem records_open {t e ew : TypeId} {q0 q1 f0 f1 f2 f3 : Field} {fuel : Nat} {v : Value} {x : DataW H × List MemPlace} (ht : P.underlying t = some (.slice e)) (hq : P.underlying e = some (.struct #[q0, q1])) (hc : P.cellsOf e = 2) (hb : 1 ≤ P.bytesOf e)
    (hqo : q0.offset = 0 ∧ q1.offset = 1) (hqk : P.cellsOf q0.type = 1 ∧ P.cellsOf q1.type = 1) (hq0 : P.underlying q0.type = some (.int .i64)) (hq1 : P.underlying q1.type = some (.slice ew)) (he : P.underlying ew = some (.struct #[f0, f1, f2, f3])) (hcw : P.cellsOf ew = 4) (hbw : 1 ≤ P.bytesOf ew)
    (ho : f0.offset = 0 ∧ f1.offset = 1 ∧ f2.offset = 2 ∧ f3.offset = 3) (hk : P.cellsOf f0.type = 1 ∧ P.cellsOf f1.type = 1 ∧ P.cellsOf f2.type = 1 ∧ P.cellsOf f3.type = 1)
    (h0 : P.underlying f0.type = some (.int .i64)) (h1 : P.underlying f1.type = some .string) (h2 : P.underlying f2.type = some .string) (h3 : P.underlying f3.type = some .bool)
    (h : DataW.trod enc P w 0 (fun _ => true) true fuel t [v] = some x) (hs : Sized P t x.1) : ∃ R, RcAt w v R := by
  rcases open_slice ht h with ⟨hcs, -⟩ | ⟨a, len, cap, m, n, D, Pl, hcs, -, hl, hm, hmm, hx, hi⟩
  · simp only [List.cons.injEq, and_true] at hcs
    exact ⟨[], Nat.zero_le _, ⟨none, 0, hcs, fun i hi => absurd hi (Nat.not_lt_zero _)⟩, fun y hy => by cases hy⟩
  · simp only [List.cons.injEq, and_true] at hcs
    simp only [if_true] at hmm
    subst hmm
    rw [hc] at hi
    rw [hx] at hs
    have hp := sized_parts ht hb hs
    have hlen : len ≤ 140737488355328 := by
      have := hp.1
      rw [List.length_map, List.length_range] at this
      exact Nat.le_trans this (by decide)
    have hex : ∀ i, i < len → ∃ r : Rv, w.cell? (a.add (i * 2)) = some (.int .i64 r.c) ∧ w.cell? ((a.add (i * 2)).add 1) = some r.v ∧ WsAt w r.v r.l := by
      intro i hil
      obtain ⟨cs', hc', ht'⟩ := hi i (by omega)
      obtain ⟨y0, y1, n', hxy, hle, t0, t1⟩ := trod_struct2 hq ht'
      have hDi : D i = .agg [y0.1, y1.1] := congrArg Prod.fst hxy
      have hsz := hp.2 (D i) (List.mem_map.2 ⟨i, List.mem_range.2 hil, rfl⟩)
      rw [hDi] at hsz
      have hs1 := (sized_two hq hsz).2
      obtain ⟨-, hcl, hat⟩ := World.cells?_some hc'
      rw [hqo.1, hqk.1] at t0
      rw [hqo.2, hqk.2] at t1
      match cs', hcl with
      | [c0, c1], _ =>
        obtain ⟨n0, e0, -, -⟩ := DataW.trod_int hq0 t0
        simp only [List.drop, List.take, List.cons.injEq, and_true] at e0
        simp only [List.drop, List.take] at t1
        obtain ⟨l, hl1⟩ := writes_open hq1 he hcw hbw ho hk h0 h1 h2 h3 t1 hs1
        have g0 := hat 0 (by omega)
        have g1 := hat 1 (by omega)
        refine ⟨⟨n0, c1, l⟩, ?_, ?_, hl1⟩
        · simpa [Addr.add, e0] using g0
        · simpa using g1
    obtain ⟨R, hR⟩ := choose_lt (α := Rv) hex
    refine ⟨(List.range len).map R, by simpa using hlen, ⟨some a, m, by simpa using hcs, fun i hil => ?_⟩, fun y hy => ?_⟩
    · rw [List.length_map, List.length_range] at hil
      obtain ⟨b, off, spot⟩ := a
      have g0 := (hR 0 (by omega)).1
      have hsp : spot = none := by have := World.cell?_spot g0; simpa [Addr.add] using this
      subst hsp
      obtain ⟨k0, k1, -⟩ := hR i hil
      rw [add_none] at k0 k1
      rw [add_none] at k1
      have hg : ((List.range len).map R).getD i default = R i := by simp [List.getD, List.getElem?_map, List.getElem?_range hil]
      rw [hg]
      exact ⟨b, off, rfl, cell_lt4 k0, k0, k1⟩
    · obtain ⟨i, hi, rfl⟩ := List.mem_map.1 hy
      exact (hR i (List.mem_range.1 hi)).2.2
end

set_option maxRecDepth 100000 in
/-- The argument of layer 17, opened. -/
theorem ask_open {H : Type} {enc : TypeId × Value → H} (W : World) {base : Nat} (v : Value) (d : DataW H) (p : List MemPlace)
    (hv : Value.okWide Try.prog W .any base 27 v) (h : DataW.Trod enc Try.prog W 0 (fun _ => true) true 27 v d p) (hsz : Sized Try.prog 27 d) :
    ∃ rv sv np nn nc lv R S Q, v = .agg #[rv, sv, .slice np nn nc, lv] ∧ nn ≤ 140737488355328 ∧ RcAt W rv R ∧ SsAt W sv S ∧ LsAt W lv Q := by
  obtain ⟨cs, rfl, hcs⟩ := okWide_struct Try.underlying27 hv
  have hc4 : Try.prog.cellsOf 27 = 4 := by kernel_rfl
  obtain ⟨c0, c1, c2, c3, rfl⟩ : ∃ c0 c1 c2 c3, cs = #[c0, c1, c2, c3] := by
    have h4 := hcs.trans hc4
    match cs, h4 with
    | ⟨[c0, c1, c2, c3]⟩, _ => exact ⟨c0, c1, c2, c3, rfl⟩
  obtain ⟨fuel, hf⟩ := h
  obtain ⟨y0, y1, y2, y3, n, hx, -, h0, h1, h2, h3⟩ := trod_struct4 Try.underlying27 hf
  have hd : d = .agg [y0.1, y1.1, y2.1, y3.1] := congrArg Prod.fst hx
  rw [hd] at hsz
  obtain ⟨s0, s1, s2, s3⟩ := sized_four Try.underlying27 hsz
  have k0 : Try.prog.cellsOf 22 = 1 := by kernel_rfl
  have k1 : Try.prog.cellsOf 23 = 1 := by kernel_rfl
  have k2 : Try.prog.cellsOf 24 = 1 := by kernel_rfl
  have k3 : Try.prog.cellsOf 25 = 1 := by kernel_rfl
  simp only [Value.cells, k0, k1, k2, k3, List.drop, List.take] at h0 h1 h2 h3
  obtain ⟨R, hR⟩ := records_open Try.underlying22 Try.underlying34 (by kernel_rfl) (of_decide_eq_true (by kernel_rfl)) ⟨rfl, rfl⟩ ⟨by kernel_rfl, by kernel_rfl⟩ (by kernel_rfl) Try.underlying32 Try.underlying43 (by kernel_rfl) (of_decide_eq_true (by kernel_rfl)) ⟨rfl, rfl, rfl, rfl⟩ ⟨by kernel_rfl, by kernel_rfl, by kernel_rfl, by kernel_rfl⟩ (by kernel_rfl) (by kernel_rfl) (by kernel_rfl) (by kernel_rfl) h0 s0
  obtain ⟨S, hS⟩ := strs_open Try.underlying23 Try.underlying9 (by kernel_rfl) (of_decide_eq_true (by kernel_rfl)) h1 s1
  obtain ⟨N, hN⟩ := ints_open Try.underlying24 Try.underlying3 (by kernel_rfl) (of_decide_eq_true (by kernel_rfl)) h2 s2
  obtain ⟨Q, hQ⟩ := lists_open Try.underlying25 (by kernel_rfl) (of_decide_eq_true (by kernel_rfl)) Try.underlying23 Try.underlying9 (by kernel_rfl) (of_decide_eq_true (by kernel_rfl)) h3 s3
  obtain ⟨hnn, np, nc, rfl, -⟩ := hN
  exact ⟨c0, c1, np, N.length, nc, c3, R, S, Q, rfl, hnn, hR, hS, hQ⟩
end Go.Proofs.Ytaelgappabecgaa
