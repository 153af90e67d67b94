/- Layer 8's argument, opened with its sizes. No condition. -/
import Derived.Test.YtkjejmikcgjnaaaAsk8
import Derived.Test.YtkjejmikcgjnaaaChHv
import Derived.SizedLaws
namespace Go.Proofs.Ytkjejmikcgjnaaa
open Go.ChangeShapes Go.WideShapes Go.ChangeAt Go.RowKit Go.Deep Go.Joins

theorem cell_lt4 {w : World} {a : Addr} {v : Value} (h : w.cell? a = some v) : a.block < w.heap.size := by
  unfold World.cell? at h
  cases e : w.heap[a.block]? with
  | none => rw [e] at h; cases h
  | some o => exact (Array.getElem?_eq_some_iff.1 e).1

section
variable {H : Type} {enc : TypeId × Value → H} {P : Program} {w : World}

theorem weights_all {e : TypeId} {ds : List (DataW H)} {d : DataW H} {n : Nat} (hd : d ∈ ds) (hn : n ∈ d.weights P e) : n ∈ DataW.weightsAll P e ds := by
  induction ds with
  | nil => cases hd
  | cons y r ih =>
    simp only [DataW.weightsAll, List.mem_append]
    rcases List.mem_cons.1 hd with rfl | hd
    · exact .inl hn
    · exact .inr (ih hd)
/-- Each slice in it takes no more than the reach. -/
def Sized (P : Program) (t : TypeId) (d : DataW H) : Prop := ∀ n ∈ d.weights P t, n ≤ reachBytes
theorem sized_parts {t e : TypeId} {el sp : List (DataW H)} (hu : P.underlying t = some (.slice e)) (hb : 1 ≤ P.bytesOf e) (h : Sized P t (.slice el sp)) : el.length ≤ reachBytes ∧ ∀ d ∈ el, Sized P e d := by
  constructor
  · have := h ((el.length + sp.length) * P.bytesOf e) (by simp [DataW.weights, hu])
    exact Nat.le_trans (Nat.le_trans (Nat.le_add_right _ sp.length) (Nat.le_mul_of_pos_right _ hb)) this
  · intro d hd n hn
    exact h n (by simp only [DataW.weights, hu, List.mem_cons, List.mem_append]; exact .inr (.inl (weights_all hd hn)))
theorem sized_two {t : TypeId} {f0 f1 : Field} {d0 d1 : DataW H} (hu : P.underlying t = some (.struct #[f0, f1])) (h : Sized P t (.agg [d0, d1])) : Sized P f0.type d0 ∧ Sized P f1.type d1 := by
  have key : ∀ n, n ∈ d0.weights P f0.type ∨ n ∈ d1.weights P f1.type → n ≤ reachBytes := fun n hn => h n (by
    simp only [DataW.weights, hu, DataW.weightsEach, List.map_cons, List.map_nil, List.mem_append, List.append_nil]
    exact hn)
  exact ⟨fun n hn => key n (.inl hn), fun n hn => key n (.inr hn)⟩
theorem sized_three {t : TypeId} {f0 f1 f2 : Field} {d0 d1 d2 : DataW H} (hu : P.underlying t = some (.struct #[f0, f1, f2])) (h : Sized P t (.agg [d0, d1, d2])) : Sized P f0.type d0 ∧ Sized P f1.type d1 ∧ Sized P f2.type d2 := by
  have key : ∀ n, n ∈ d0.weights P f0.type ∨ n ∈ d1.weights P f1.type ∨ n ∈ d2.weights P f2.type → n ≤ reachBytes := fun n hn => h n (by
    simp only [DataW.weights, hu, DataW.weightsEach, List.map_cons, List.map_nil, List.mem_append, List.append_nil]
    exact hn)
  exact ⟨fun n hn => key n (.inl hn), fun n hn => key n (.inr (.inl hn)), fun n hn => key n (.inr (.inr hn))⟩
theorem sized_four {t : TypeId} {f0 f1 f2 f3 : Field} {d0 d1 d2 d3 : DataW H} (hu : P.underlying t = some (.struct #[f0, f1, f2, f3])) (h : Sized P t (.agg [d0, d1, d2, d3])) : Sized P f0.type d0 ∧ Sized P f1.type d1 ∧ Sized P f2.type d2 ∧ Sized P f3.type d3 := by
  have key : ∀ n, n ∈ d0.weights P f0.type ∨ n ∈ d1.weights P f1.type ∨ n ∈ d2.weights P f2.type ∨ n ∈ d3.weights P f3.type → n ≤ reachBytes := fun n hn => h n (by
    simp only [DataW.weights, hu, DataW.weightsEach, List.map_cons, List.map_nil, List.mem_append, List.append_nil]
    exact hn)
  exact ⟨fun n hn => key n (.inl hn), fun n hn => key n (.inr (.inl hn)), fun n hn => key n (.inr (.inr (.inl hn))), fun n hn => key n (.inr (.inr (.inr hn)))⟩
theorem sized_str {t : TypeId} {s : ByteArray} (h : Sized P t (.lit (.string s.data.toList) : DataW H)) : s.size ≤ 140737488355328 := by
  have := h s.data.toList.length (by rw [DataW.weights]; exact List.mem_singleton.2 rfl)
  have e : s.data.toList.length = s.size := rfl
  rw [e] at this
  exact Nat.le_trans this (by decide)

theorem strs_open {t e : TypeId} {fuel : Nat} {v : Value} {x : DataW H × List MemPlace} (ht : P.underlying t = some (.slice e)) (he : P.underlying e = some .string) (hc : P.cellsOf e = 1) (hb : 1 ≤ P.bytesOf e)
    (h : DataW.trod enc P w 0 (fun _ => true) true fuel t [v] = some x) (hs : Sized P t x.1) : ∃ L S, StrsBig w v L S := by
  rcases open_slice1 ht hc h with ⟨hcs, -⟩ | ⟨a, len, cap, m, n, V, D, Pl, hcs, -, hl, hm, hmm, hx, hi⟩
  · simp only [List.cons.injEq, and_true] at hcs
    exact ⟨0, fun _ => E0, none, 0, hcs, Nat.zero_le _, fun i hi => absurd hi (Nat.not_lt_zero _)⟩
  · simp only [List.cons.injEq, and_true] at hcs
    simp only [if_true] at hmm
    subst hmm
    rw [hx] at hs
    have hp := sized_parts ht hb hs
    have hlen : len ≤ 140737488355328 := by
      have := hp.1
      rw [List.length_map, List.length_range] at this
      exact Nat.le_trans this (by decide)
    have hex : ∀ i, i < len → ∃ s : ByteArray, w.cell? (a.add i) = some (.string s) ∧ s.size ≤ 140737488355328 := by
      intro i hil
      obtain ⟨h1, h2⟩ := hi i (by omega)
      obtain ⟨s, hs1, hd, -⟩ := DataW.trod_string he h2
      simp only [List.cons.injEq, and_true] at hs1
      have hsz := hp.2 (D i) (List.mem_map.2 ⟨i, List.mem_range.2 hil, rfl⟩)
      simp only [Prod.mk.injEq] at hd
      rw [hd.1] at hsz
      exact ⟨s, by rw [h1, hs1], sized_str hsz⟩
    obtain ⟨S, hS⟩ := choose_lt (α := ByteArray) hex
    refine ⟨len, S, some a, m, hcs, hlen, fun i hil => ?_⟩
    obtain ⟨b, off, spot⟩ := a
    have h0 := (hS 0 (by omega)).1
    have hsp : spot = none := by have := World.cell?_spot h0; simpa [Addr.add] using this
    subst hsp
    obtain ⟨h1, h2⟩ := hS i hil
    rw [add_none] at h1
    exact ⟨b, off, rfl, cell_lt4 h1, h1, h2⟩

theorem versions_open {t e : TypeId} {f0 f1 f2 : Field} {fuel : Nat} {v : Value} {x : DataW H × List MemPlace} (ht : P.underlying t = some (.slice e)) (he : P.underlying e = some (.struct #[f0, f1, f2])) (hc : P.cellsOf e = 3) (hb : 1 ≤ P.bytesOf e)
    (ho : f0.offset = 0 ∧ f1.offset = 1 ∧ f2.offset = 2) (hk : P.cellsOf f0.type = 1 ∧ P.cellsOf f1.type = 1 ∧ P.cellsOf f2.type = 1)
    (h0 : P.underlying f0.type = some (.int .i64)) (h1 : P.underlying f1.type = some .string) (h2 : P.underlying f2.type = some .bool)
    (h : DataW.trod enc P w 0 (fun _ => true) true fuel t [v] = some x) (hs : Sized P t x.1) : ∃ l, VsAt w v l := by
  rcases open_slice ht h with ⟨hcs, -⟩ | ⟨a, len, cap, m, n, D, Pl, hcs, -, hl, hm, hmm, hx, hi⟩
  · simp only [List.cons.injEq, and_true] at hcs
    exact ⟨[], by rw [hcs]; exact VsAt.nil _ _ _⟩
  · simp only [List.cons.injEq, and_true] at hcs
    simp only [if_true] at hmm
    subst hmm
    rw [hc] at hi
    rw [hx] at hs
    have hp := sized_parts ht hb hs
    have hlen : len ≤ 140737488355328 := by
      have := hp.1
      rw [List.length_map, List.length_range] at this
      exact Nat.le_trans this (by decide)
    have hex : ∀ i, i < len → ∃ r : Vr, w.cell? (a.add (i * 3)) = some (.int .i64 r.c) ∧ w.cell? ((a.add (i * 3)).add 1) = some (.string r.s) ∧ w.cell? ((a.add (i * 3)).add 2) = some (.bool r.g) ∧ r.s.size ≤ 140737488355328 := by
      intro i hil
      obtain ⟨cs', hc', ht'⟩ := hi i (by omega)
      obtain ⟨y0, y1, y2, n', hxy, hlen', t0, t1, t2⟩ := trod_struct3 he ht'
      have hDi : D i = .agg [y0.1, y1.1, y2.1] := congrArg Prod.fst hxy
      have hsz := hp.2 (D i) (List.mem_map.2 ⟨i, List.mem_range.2 hil, rfl⟩)
      rw [hDi] at hsz
      have hs2 := (sized_three he hsz).2.1
      obtain ⟨-, hcl, hat⟩ := World.cells?_some hc'
      rw [ho.1, hk.1] at t0
      rw [ho.2.1, hk.2.1] at t1
      rw [ho.2.2, hk.2.2] at t2
      match cs', hcl with
      | [c0, c1, c2], _ =>
        obtain ⟨n0, e0, -, -⟩ := DataW.trod_int h0 t0
        obtain ⟨s1, e1, d1, -⟩ := DataW.trod_string h1 t1
        obtain ⟨b2, e2, -⟩ := DataW.trod_bool h2 t2
        have d1' : y1.1 = .lit (.string s1.data.toList) := congrArg Prod.fst d1
        rw [d1'] at hs2
        simp only [List.drop, List.take, List.cons.injEq, and_true] at e0 e1 e2
        have g0 := hat 0 (by omega)
        have g1 := hat 1 (by omega)
        have g2 := hat 2 (by omega)
        refine ⟨⟨n0, s1, b2⟩, ?_, ?_, ?_, sized_str hs2⟩
        · simpa [Addr.add, e0] using g0
        · simpa [e1] using g1
        · simpa [e2] using g2
    obtain ⟨R, hR⟩ := choose_lt (α := Vr) hex
    refine ⟨(List.range len).map R, by simpa using hlen, fun y hy => ?_, some a, m, by simpa using hcs, by simpa using hl, fun i hil => ?_⟩
    · obtain ⟨i, hi, rfl⟩ := List.mem_map.1 hy
      exact (hR i (List.mem_range.1 hi)).2.2.2
    · rw [List.length_map, List.length_range] at hil
      obtain ⟨b, off, spot⟩ := a
      have g0 := (hR 0 (by omega)).1
      have hsp : spot = none := by have := World.cell?_spot g0; simpa [Addr.add] using this
      subst hsp
      obtain ⟨k0, k1, k2, -⟩ := hR i hil
      rw [add_none] at k0 k1 k2
      rw [add_none] at k1 k2
      have hg : ((List.range len).map R).getD i default = R i := by simp [List.getD, List.getElem?_map, List.getElem?_range hil]
      rw [hg]
      exact ⟨b, off, rfl, cell_lt4 k0, k0, k1, k2⟩

theorem chains_open {t e tl ev : TypeId} {f0 f1 g0 g1 g2 : Field} {fuel : Nat} {v : Value} {x : DataW H × List MemPlace} (ht : P.underlying t = some (.slice e)) (he : P.underlying e = some (.struct #[f0, f1])) (hc : P.cellsOf e = 2) (hb : 1 ≤ P.bytesOf e)
    (ho : f0.offset = 0 ∧ f1.offset = 1) (hk : P.cellsOf f0.type = 1 ∧ P.cellsOf f1.type = 1) (h0 : P.underlying f0.type = some .string) (h1 : f1.type = tl) (htl : P.underlying tl = some (.slice ev)) (hev : P.underlying ev = some (.struct #[g0, g1, g2])) (hcv : P.cellsOf ev = 3) (hbv : 1 ≤ P.bytesOf ev)
    (hov : g0.offset = 0 ∧ g1.offset = 1 ∧ g2.offset = 2) (hkv : P.cellsOf g0.type = 1 ∧ P.cellsOf g1.type = 1 ∧ P.cellsOf g2.type = 1)
    (hv0 : P.underlying g0.type = some (.int .i64)) (hv1 : P.underlying g1.type = some .string) (hv2 : P.underlying g2.type = some .bool)
    (h : DataW.trod enc P w 0 (fun _ => true) true fuel t [v] = some x) (hs : Sized P t x.1) : ∃ n f, ChAt w v n f := by
  rcases open_slice ht h with ⟨hcs, -⟩ | ⟨a, len, cap, m, n, D, Pl, hcs, -, hl, hm, hmm, hx, hi⟩
  · simp only [List.cons.injEq, and_true] at hcs
    exact ⟨0, fun _ => default, Nat.zero_le _, none, 0, hcs, fun i hi => absurd hi (Nat.not_lt_zero _)⟩
  · simp only [List.cons.injEq, and_true] at hcs
    simp only [if_true] at hmm
    subst hmm
    rw [hc] at hi
    rw [hx] at hs
    have hp := sized_parts ht hb hs
    have hlen : len ≤ 140737488355328 := by
      have := hp.1
      rw [List.length_map, List.length_range] at this
      exact Nat.le_trans this (by decide)
    have hex : ∀ i, i < len → ∃ y : Cv, w.cell? (a.add (i * 2)) = some (.string y.k) ∧ w.cell? ((a.add (i * 2)).add 1) = some y.v ∧ y.k.size ≤ 140737488355328 ∧ VsAt w y.v y.l := by
      intro i hil
      obtain ⟨cs', hc', ht'⟩ := hi i (by omega)
      obtain ⟨y0, y1, n', hxy, hle, t0, t1⟩ := trod_struct2 he ht'
      have hDi : D i = .agg [y0.1, y1.1] := congrArg Prod.fst hxy
      have hsz := hp.2 (D i) (List.mem_map.2 ⟨i, List.mem_range.2 hil, rfl⟩)
      rw [hDi] at hsz
      obtain ⟨hz0, hz1⟩ := sized_two he hsz
      obtain ⟨-, hcl, hat⟩ := World.cells?_some hc'
      rw [ho.1, hk.1] at t0
      rw [ho.2, hk.2] at t1
      match cs', hcl with
      | [c0, c1], _ =>
        obtain ⟨s0, e0, d0, -⟩ := DataW.trod_string h0 t0
        have d0' : y0.1 = .lit (.string s0.data.toList) := congrArg Prod.fst d0
        rw [d0'] at hz0
        simp only [List.drop, List.take, List.cons.injEq, and_true] at e0
        simp only [List.drop, List.take] at t1
        subst h1
        obtain ⟨l, hl1⟩ := versions_open htl hev hcv hbv hov hkv hv0 hv1 hv2 t1 hz1
        have g0 := hat 0 (by omega)
        have g1 := hat 1 (by omega)
        refine ⟨⟨s0, c1, l⟩, ?_, ?_, sized_str hz0, hl1⟩
        · simpa [Addr.add, e0] using g0
        · simpa using g1
    obtain ⟨R, hR⟩ := choose_lt (α := Cv) hex
    refine ⟨len, R, hlen, some a, m, hcs, fun i hil => ?_⟩
    obtain ⟨b, off, spot⟩ := a
    have g0 := (hR 0 (by omega)).1
    have hsp : spot = none := by have := World.cell?_spot g0; simpa [Addr.add] using this
    subst hsp
    obtain ⟨k0, k1, k2, k3⟩ := hR i hil
    rw [add_none] at k0 k1
    rw [add_none] at k1
    exact ⟨b, off, rfl, cell_lt4 k0, k0, k1, k2, k3⟩
end
end Go.Proofs.Ytkjejmikcgjnaaa
