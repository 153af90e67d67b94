/- Layer 18's argument, opened with its sizes. No condition. -/
import Derived.Test.YtgaalahlkllkaaaRows
import Derived.Test.YtgaalahlkllkaaaTpHv
import Derived.ProofKit
import Derived.Deep.Slices
import Derived.Deep.Strs
import Derived.Lib.SmallJoins
import Derived.SizedLaws
namespace Go.Proofs.Ytgaalahlkllkaaa
open Go.ChangeShapes Go.WideShapes Go.ChangeAt Go.RowKit Go.Deep Go.Joins

theorem own : ownKnob Try.prog.godebug = none := by kernel_rfl
theorem laidOut : laidOutB Try.prog = true := by kernel_rfl
theorem cell_lt4 {w : World} {a : Addr} {v : Value} (h : w.cell? a = some v) : a.block < w.heap.size := by
  unfold World.cell? at h
  cases e : w.heap[a.block]? with
  | none => rw [e] at h; cases h
  | some o => exact (Array.getElem?_eq_some_iff.1 e).1

section
variable {H : Type} {enc : TypeId × Value → H} {P : Program} {w : World}

theorem weights_all {e : TypeId} {ds : List (DataW H)} {d : DataW H} {n : Nat} (hd : d ∈ ds) (hn : n ∈ d.weights P e) : n ∈ DataW.weightsAll P e ds := by
  induction ds with
  | nil => cases hd
  | cons y r ih =>
    simp only [DataW.weightsAll, List.mem_append]
    rcases List.mem_cons.1 hd with rfl | hd
    · exact .inl hn
    · exact .inr (ih hd)
/-- Each slice in it takes no more than the reach. -/
def Sized (P : Program) (t : TypeId) (d : DataW H) : Prop := ∀ n ∈ d.weights P t, n ≤ reachBytes
theorem sized_parts {t e : TypeId} {el sp : List (DataW H)} (hu : P.underlying t = some (.slice e)) (hb : 1 ≤ P.bytesOf e) (h : Sized P t (.slice el sp)) : el.length ≤ reachBytes ∧ ∀ d ∈ el, Sized P e d := by
  constructor
  · have := h ((el.length + sp.length) * P.bytesOf e) (by simp [DataW.weights, hu])
    exact Nat.le_trans (Nat.le_trans (Nat.le_add_right _ sp.length) (Nat.le_mul_of_pos_right _ hb)) this
  · intro d hd n hn
    exact h n (by simp only [DataW.weights, hu, List.mem_cons, List.mem_append]; exact .inr (.inl (weights_all hd hn)))
theorem sized_two {t : TypeId} {f0 f1 : Field} {d0 d1 : DataW H} (hu : P.underlying t = some (.struct #[f0, f1])) (h : Sized P t (.agg [d0, d1])) : Sized P f0.type d0 ∧ Sized P f1.type d1 := by
  have key : ∀ n, n ∈ d0.weights P f0.type ∨ n ∈ d1.weights P f1.type → n ≤ reachBytes := fun n hn => h n (by
    simp only [DataW.weights, hu, DataW.weightsEach, List.map_cons, List.map_nil, List.mem_append, List.append_nil]
    exact hn)
  exact ⟨fun n hn => key n (.inl hn), fun n hn => key n (.inr hn)⟩
theorem sized_three {t : TypeId} {f0 f1 f2 : Field} {d0 d1 d2 : DataW H} (hu : P.underlying t = some (.struct #[f0, f1, f2])) (h : Sized P t (.agg [d0, d1, d2])) : Sized P f0.type d0 ∧ Sized P f1.type d1 ∧ Sized P f2.type d2 := by
  have key : ∀ n, n ∈ d0.weights P f0.type ∨ n ∈ d1.weights P f1.type ∨ n ∈ d2.weights P f2.type → n ≤ reachBytes := fun n hn => h n (by
    simp only [DataW.weights, hu, DataW.weightsEach, List.map_cons, List.map_nil, List.mem_append, List.append_nil]
    exact hn)
  exact ⟨fun n hn => key n (.inl hn), fun n hn => key n (.inr (.inl hn)), fun n hn => key n (.inr (.inr hn))⟩
theorem sized_four {t : TypeId} {f0 f1 f2 f3 : Field} {d0 d1 d2 d3 : DataW H} (hu : P.underlying t = some (.struct #[f0, f1, f2, f3])) (h : Sized P t (.agg [d0, d1, d2, d3])) : Sized P f0.type d0 ∧ Sized P f1.type d1 ∧ Sized P f2.type d2 ∧ Sized P f3.type d3 := by
  have key : ∀ n, n ∈ d0.weights P f0.type ∨ n ∈ d1.weights P f1.type ∨ n ∈ d2.weights P f2.type ∨ n ∈ d3.weights P f3.type → n ≤ reachBytes := fun n hn => h n (by
    simp only [DataW.weights, hu, DataW.weightsEach, List.map_cons, List.map_nil, List.mem_append, List.append_nil]
    exact hn)
  exact ⟨fun n hn => key n (.inl hn), fun n hn => key n (.inr (.inl hn)), fun n hn => key n (.inr (.inr (.inl hn))), fun n hn => key n (.inr (.inr (.inr hn)))⟩
theorem sized_str {t : TypeId} {s : ByteArray} (h : Sized P t (.lit (.string s.data.toList) : DataW H)) : s.size ≤ 140737488355328 := by
  have := h s.data.toList.length (by rw [DataW.weights]; exact List.mem_singleton.2 rfl)
  have e : s.data.toList.length = s.size := rfl
  rw [e] at this
  exact Nat.le_trans this (by decide)

theorem strs_open {t e : TypeId} {fuel : Nat} {v : Value} {x : DataW H × List MemPlace} (ht : P.underlying t = some (.slice e)) (he : P.underlying e = some .string) (hc : P.cellsOf e = 1) (hb : 1 ≤ P.bytesOf e)
    (h : DataW.trod enc P w 0 (fun _ => true) true fuel t [v] = some x) (hs : Sized P t x.1) : ∃ S, SsAt w v S := by
  rcases open_slice1 ht hc h with ⟨hcs, -⟩ | ⟨a, len, cap, m, n, V, D, Pl, hcs, -, hl, hm, hmm, hx, hi⟩
  · simp only [List.cons.injEq, and_true] at hcs
    exact ⟨[], by rw [hcs]; exact SsAt.nil _ _ _⟩
  · simp only [List.cons.injEq, and_true] at hcs
    simp only [if_true] at hmm
    subst hmm
    rw [hx] at hs
    have hp := sized_parts ht hb hs
    have hlen : len ≤ 140737488355328 := by
      have := hp.1
      rw [List.length_map, List.length_range] at this
      exact Nat.le_trans this (by decide)
    have hex : ∀ i, i < len → ∃ s : ByteArray, w.cell? (a.add i) = some (.string s) ∧ s.size ≤ 140737488355328 := by
      intro i hil
      obtain ⟨h1, h2⟩ := hi i (by omega)
      obtain ⟨s, hs1, hd, -⟩ := DataW.trod_string he h2
      simp only [List.cons.injEq, and_true] at hs1
      have hsz := hp.2 (D i) (List.mem_map.2 ⟨i, List.mem_range.2 hil, rfl⟩)
      simp only [Prod.mk.injEq] at hd
      rw [hd.1] at hsz
      exact ⟨s, by rw [h1, hs1], sized_str hsz⟩
    obtain ⟨R, hR⟩ := choose_lt (α := ByteArray) hex
    refine ⟨(List.range len).map R, by simpa using hlen, fun y hy => ?_, some a, m, by simpa using hcs, by simpa using hl, fun i hil => ?_⟩
    · obtain ⟨i, hi, rfl⟩ := List.mem_map.1 hy
      exact (hR i (List.mem_range.1 hi)).2
    · rw [List.length_map, List.length_range] at hil
      obtain ⟨b, off, spot⟩ := a
      have g0 := (hR 0 (by omega)).1
      have hsp : spot = none := by have := World.cell?_spot g0; simpa [Addr.add] using this
      subst hsp
      have k0 := (hR i hil).1
      rw [add_none] at k0
      have hg : ((List.range len).map R).getD i E0 = R i := by simp [List.getD, List.getElem?_map, List.getElem?_range hil]
      rw [hg]
      exact ⟨b, off, rfl, cell_lt4 k0, k0⟩

/-- Any slice's form. -/
theorem any_open {t e : TypeId} {fuel : Nat} {v : Value} {x : DataW H × List MemPlace} (ht : P.underlying t = some (.slice e)) (hc : P.cellsOf e = 1)
    (h : DataW.trod enc P w 0 (fun _ => true) true fuel t [v] = some x) : ∃ p n c, v = .slice p n c := by
  rcases open_slice1 ht hc h with ⟨hcs, -⟩ | ⟨a, len, cap, m, n, V, D, Pl, hcs, -⟩
  · simp only [List.cons.injEq, and_true] at hcs
    exact ⟨none, 0, 0, hcs⟩
  · simp only [List.cons.injEq, and_true] at hcs
    exact ⟨_, _, _, hcs⟩
/-- One put, read out of its two cells. -/
theorem put_open {e : TypeId} {f0 f1 : Field} {fuel : Nat} {c0 c1 : Value} {x : DataW H × List MemPlace} (he : P.underlying e = some (.struct #[f0, f1]))
    (ho : f0.offset = 0 ∧ f1.offset = 1) (hk : P.cellsOf f0.type = 1 ∧ P.cellsOf f1.type = 1)
    (h0 : P.underlying f0.type = some (.int .i64)) (h1 : P.underlying f1.type = some .string)
    (h : DataW.trod enc P w 0 (fun _ => true) true fuel e [c0, c1] = some x) (hs : Sized P e x.1) : ∃ r : Pt, c0 = .int .i64 r.i ∧ c1 = .string r.s ∧ r.s.size ≤ 140737488355328 := by
  obtain ⟨y0, y1, n', hxy, -, t0, t1⟩ := trod_struct2 he h
  have hDi : x.1 = .agg [y0.1, y1.1] := congrArg Prod.fst hxy
  rw [hDi] at hs
  obtain ⟨-, s1⟩ := sized_two he hs
  rw [ho.1, hk.1] at t0
  rw [ho.2, hk.2] at t1
  obtain ⟨n0, e0, -, -⟩ := DataW.trod_int h0 t0
  obtain ⟨k1, e1, d1, -⟩ := DataW.trod_string h1 t1
  have d1' : y1.1 = .lit (.string k1.data.toList) := congrArg Prod.fst d1
  rw [d1'] at s1
  simp only [List.drop, List.take, List.cons.injEq, and_true] at e0 e1
  exact ⟨⟨n0, k1⟩, e0, e1, sized_str s1⟩
theorem puts_open {t e : TypeId} {f0 f1 : Field} {fuel : Nat} {v : Value} {x : DataW H × List MemPlace} (ht : P.underlying t = some (.slice e)) (he : P.underlying e = some (.struct #[f0, f1])) (hc : P.cellsOf e = 2) (hb : 1 ≤ P.bytesOf e)
    (ho : f0.offset = 0 ∧ f1.offset = 1) (hk : P.cellsOf f0.type = 1 ∧ P.cellsOf f1.type = 1)
    (h0 : P.underlying f0.type = some (.int .i64)) (h1 : P.underlying f1.type = some .string)
    (h : DataW.trod enc P w 0 (fun _ => true) true fuel t [v] = some x) (hs : Sized P t x.1) : ∃ l, PsAt w v l := by
  rcases open_slice ht h with ⟨hcs, -⟩ | ⟨a, len, cap, m, n, D, Pl, hcs, -, hl, hm, hmm, hx, hi⟩
  · simp only [List.cons.injEq, and_true] at hcs
    exact ⟨[], by rw [hcs]; exact PsAt.nil _ _ _⟩
  · simp only [List.cons.injEq, and_true] at hcs
    simp only [if_true] at hmm
    subst hmm
    rw [hc] at hi
    rw [hx] at hs
    have hp := sized_parts ht hb hs
    have hlen : len ≤ 140737488355328 := by
      have := hp.1
      rw [List.length_map, List.length_range] at this
      exact Nat.le_trans this (by decide)
    have hex : ∀ i, i < len → ∃ r : Pt, w.cell? (a.add (i * 2)) = some (.int .i64 r.i) ∧ w.cell? ((a.add (i * 2)).add 1) = some (.string r.s) ∧ r.s.size ≤ 140737488355328 := by
      intro i hil
      obtain ⟨cs', hc', ht'⟩ := hi i (by omega)
      have hsz := hp.2 (D i) (List.mem_map.2 ⟨i, List.mem_range.2 hil, rfl⟩)
      obtain ⟨-, hcl, hat⟩ := World.cells?_some hc'
      match cs', hcl with
      | [c0, c1], _ =>
        obtain ⟨r, e0, e1, z1⟩ := put_open he ho hk h0 h1 ht' hsz
        have g0 := hat 0 (by omega)
        have g1 := hat 1 (by omega)
        refine ⟨r, ?_, ?_, z1⟩
        · simpa [Addr.add, e0] using g0
        · simpa [e1] using g1
    obtain ⟨R, hR⟩ := choose_lt (α := Pt) hex
    refine ⟨(List.range len).map R, by simpa using hlen, fun y hy => ?_, some a, m, by simpa using hcs, by simpa using hl, fun i hil => ?_⟩
    · obtain ⟨i, hi, rfl⟩ := List.mem_map.1 hy
      exact (hR i (List.mem_range.1 hi)).2.2
    · rw [List.length_map, List.length_range] at hil
      obtain ⟨b, off, spot⟩ := a
      have g0 := (hR 0 (by omega)).1
      have hsp : spot = none := by have := World.cell?_spot g0; simpa [Addr.add] using this
      subst hsp
      obtain ⟨k0, k1, -⟩ := hR i hil
      rw [add_none] at k0 k1
      rw [add_none] at k1
      have hg : ((List.range len).map R).getD i default = R i := by simp [List.getD, List.getElem?_map, List.getElem?_range hil]
      rw [hg]
      exact ⟨b, off, rfl, cell_lt4 k0, k0, k1⟩
theorem dos_open {t e : TypeId} {q0 q1 f0 f1 : Field} {fuel : Nat} {v : Value} {x : DataW H × List MemPlace} (ht : P.underlying t = some (.slice e)) (hq : P.underlying e = some (.struct #[q0, q1])) (hc : P.cellsOf e = 3) (hb : 1 ≤ P.bytesOf e)
    (hqo : q0.offset = 0 ∧ q1.offset = 1) (hqk : P.cellsOf q0.type = 1 ∧ P.cellsOf q1.type = 2) (hq0 : P.underlying q0.type = some .bool) (he : P.underlying q1.type = some (.struct #[f0, f1]))
    (ho : f0.offset = 0 ∧ f1.offset = 1) (hk : P.cellsOf f0.type = 1 ∧ P.cellsOf f1.type = 1)
    (h0 : P.underlying f0.type = some (.int .i64)) (h1 : P.underlying f1.type = some .string)
    (h : DataW.trod enc P w 0 (fun _ => true) true fuel t [v] = some x) (hs : Sized P t x.1) : ∃ D, DsAt w v D := by
  rcases open_slice ht h with ⟨hcs, -⟩ | ⟨a, len, cap, m, n, D, Pl, hcs, -, hl, hm, hmm, hx, hi⟩
  · simp only [List.cons.injEq, and_true] at hcs
    exact ⟨[], Nat.zero_le _, fun y hy => (by cases hy), none, 0, hcs, fun i hi => absurd hi (Nat.not_lt_zero _)⟩
  · simp only [List.cons.injEq, and_true] at hcs
    simp only [if_true] at hmm
    subst hmm
    rw [hc] at hi
    rw [hx] at hs
    have hp := sized_parts ht hb hs
    have hlen : len ≤ 140737488355328 := by
      have := hp.1
      rw [List.length_map, List.length_range] at this
      exact Nat.le_trans this (by decide)
    have hex : ∀ i, i < len → ∃ r : Dd, w.cell? (a.add (i * 3)) = some (.bool r.g) ∧ w.cell? ((a.add (i * 3)).add 1) = some (.int .i64 r.p.i) ∧ w.cell? ((a.add (i * 3)).add 2) = some (.string r.p.s) ∧ r.p.s.size ≤ 140737488355328 := by
      intro i hil
      obtain ⟨cs', hc', ht'⟩ := hi i (by omega)
      obtain ⟨y0, y1, n', hxy, -, t0, t1⟩ := trod_struct2 hq ht'
      have hDi : D i = .agg [y0.1, y1.1] := congrArg Prod.fst hxy
      have hsz := hp.2 (D i) (List.mem_map.2 ⟨i, List.mem_range.2 hil, rfl⟩)
      rw [hDi] at hsz
      have hs2 := (sized_two hq hsz).2
      obtain ⟨-, hcl, hat⟩ := World.cells?_some hc'
      rw [hqo.1, hqk.1] at t0
      rw [hqo.2, hqk.2] at t1
      match cs', hcl with
      | [z, c0, c1], _ =>
        simp only [List.drop, List.take] at t0 t1
        obtain ⟨b0, en, -⟩ := DataW.trod_bool hq0 t0
        simp only [List.cons.injEq, and_true] at en
        obtain ⟨r, e0, e1, z1⟩ := put_open he ho hk h0 h1 t1 hs2
        have g0 := hat 0 (by omega)
        have g1 := hat 1 (by omega)
        have g2 := hat 2 (by omega)
        refine ⟨⟨b0, r⟩, ?_, ?_, ?_, z1⟩
        · simpa [Addr.add, en] using g0
        · simpa [e0] using g1
        · simpa [e1] using g2
    obtain ⟨R, hR⟩ := choose_lt (α := Dd) hex
    refine ⟨(List.range len).map R, by simpa using hlen, fun y hy => ?_, some a, m, by simpa using hcs, fun i hil => ?_⟩
    · obtain ⟨i, hi, rfl⟩ := List.mem_map.1 hy
      exact (hR i (List.mem_range.1 hi)).2.2.2
    · rw [List.length_map, List.length_range] at hil
      obtain ⟨b, off, spot⟩ := a
      have g0 := (hR 0 (by omega)).1
      have hsp : spot = none := by have := World.cell?_spot g0; simpa [Addr.add] using this
      subst hsp
      obtain ⟨k0, k1, k2, -⟩ := hR i hil
      rw [add_none] at k0 k1 k2
      rw [add_none] at k1 k2
      have hg : ((List.range len).map R).getD i default = R i := by simp [List.getD, List.getElem?_map, List.getElem?_range hil]
      rw [hg]
      exact ⟨b, off, rfl, cell_lt4 k0, k0, k1, k2⟩
theorem acts_open {t e ed ek : TypeId} {r0 r1 r2 r3 q0 q1 f0 f1 : Field} {fuel : Nat} {v : Value} {x : DataW H × List MemPlace} (ht : P.underlying t = some (.slice e)) (hr : P.underlying e = some (.struct #[r0, r1, r2, r3])) (hc : P.cellsOf e = 4) (hb : 1 ≤ P.bytesOf e)
    (hro : r2.offset = 2 ∧ r3.offset = 3) (hrk : P.cellsOf r2.type = 1 ∧ P.cellsOf r3.type = 1) (hr2 : P.underlying r2.type = some (.slice ed)) (hr3 : P.underlying r3.type = some (.slice ek)) (hck : P.cellsOf ek = 1)
    (hq : P.underlying ed = some (.struct #[q0, q1])) (hcd : P.cellsOf ed = 3) (hbd : 1 ≤ P.bytesOf ed)
    (hqo : q0.offset = 0 ∧ q1.offset = 1) (hqk : P.cellsOf q0.type = 1 ∧ P.cellsOf q1.type = 2) (hq0 : P.underlying q0.type = some .bool) (he : P.underlying q1.type = some (.struct #[f0, f1]))
    (ho : f0.offset = 0 ∧ f1.offset = 1) (hk : P.cellsOf f0.type = 1 ∧ P.cellsOf f1.type = 1)
    (h0 : P.underlying f0.type = some (.int .i64)) (h1 : P.underlying f1.type = some .string)
    (h : DataW.trod enc P w 0 (fun _ => true) true fuel t [v] = some x) (hs : Sized P t x.1) : ∃ Q, AcAt w v Q := by
  rcases open_slice ht h with ⟨hcs, -⟩ | ⟨a, len, cap, m, n, D, Pl, hcs, -, hl, hm, hmm, hx, hi⟩
  · simp only [List.cons.injEq, and_true] at hcs
    exact ⟨[], Nat.zero_le _, ⟨none, 0, hcs, fun i hi => absurd hi (Nat.not_lt_zero _)⟩, fun y hy => by cases hy⟩
  · simp only [List.cons.injEq, and_true] at hcs
    simp only [if_true] at hmm
    subst hmm
    rw [hc] at hi
    rw [hx] at hs
    have hp := sized_parts ht hb hs
    have hlen : len ≤ 140737488355328 := by
      have := hp.1
      rw [List.length_map, List.length_range] at this
      exact Nat.le_trans this (by decide)
    have hex : ∀ i, i < len → ∃ r : Av × Value, w.cell? (a.add (i * 4)) = some r.2 ∧ w.cell? ((a.add (i * 4)).add 2) = some r.1.v ∧ w.cell? ((a.add (i * 4)).add 3) = some (.slice r.1.kp r.1.kn r.1.kc) ∧ DsAt w r.1.v r.1.D := by
      intro i hil
      obtain ⟨cs', hc', ht'⟩ := hi i (by omega)
      obtain ⟨y0, y1, y2, y3, n', hxy, -, -, -, t2, t3⟩ := trod_struct4 hr ht'
      have hDi : D i = .agg [y0.1, y1.1, y2.1, y3.1] := congrArg Prod.fst hxy
      have hsz := hp.2 (D i) (List.mem_map.2 ⟨i, List.mem_range.2 hil, rfl⟩)
      rw [hDi] at hsz
      obtain ⟨-, -, s2, -⟩ := sized_four hr hsz
      obtain ⟨-, hcl, hat⟩ := World.cells?_some hc'
      rw [hro.1, hrk.1] at t2
      rw [hro.2, hrk.2] at t3
      match cs', hcl with
      | [z, z1, c2, c3], _ =>
        simp only [List.drop, List.take] at t2 t3
        obtain ⟨Dl, hD⟩ := dos_open hr2 hq hcd hbd hqo hqk hq0 he ho hk h0 h1 t2 s2
        obtain ⟨kp, kn, kc, e3⟩ := any_open hr3 hck t3
        have g0 := hat 0 (by omega)
        have g2 := hat 2 (by omega)
        have g3 := hat 3 (by omega)
        refine ⟨(⟨c2, Dl, kp, kn, kc⟩, z), ?_, ?_, ?_, hD⟩
        · simpa [Addr.add] using g0
        · simpa using g2
        · simpa [e3] using g3
    obtain ⟨R, hR⟩ := choose_lt (α := Av × Value) hex
    refine ⟨(List.range len).map (fun i => (R i).1), by simpa using hlen, ⟨some a, m, by simpa using hcs, fun i hil => ?_⟩, fun y hy => ?_⟩
    · rw [List.length_map, List.length_range] at hil
      obtain ⟨b, off, spot⟩ := a
      have g0 := (hR 0 (by omega)).1
      have hsp : spot = none := by have := World.cell?_spot g0; simpa [Addr.add] using this
      subst hsp
      obtain ⟨-, k2, k3, -⟩ := hR i hil
      rw [add_none] at k2 k3
      rw [add_none] at k2 k3
      have hg : ((List.range len).map (fun i => (R i).1)).getD i default = (R i).1 := by simp [List.getD, List.getElem?_map, List.getElem?_range hil]
      rw [hg]
      exact ⟨b, off, rfl, cell_lt4 k2, k2, k3⟩
    · obtain ⟨i, hi, rfl⟩ := List.mem_map.1 hy
      exact (hR i (List.mem_range.1 hi)).2.2.2
end
end Go.Proofs.Ytgaalahlkllkaaa
