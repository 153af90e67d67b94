/- Layer 4's L, opened with its sizes. No condition. -/
import Derived.Test.YthkpeddgcglpcaaWaitQ
import Derived.Test.YthkpeddgcglpcaaAsk4
import Derived.SizedLaws
namespace Go.Proofs.Ythkpeddgcglpcaa
open Go.ChangeShapes Go.WideShapes Go.ChangeAt Go.RowKit Go.Deep

theorem cell_lt4 {w : World} {a : Addr} {v : Value} (h : w.cell? a = some v) : a.block < w.heap.size := by
  unfold World.cell? at h
  cases e : w.heap[a.block]? with
  | none => rw [e] at h; cases h
  | some o => exact (Array.getElem?_eq_some_iff.1 e).1

section
variable {H : Type} {enc : TypeId × Value → H} {P : Program} {w : World}

theorem weights_all {e : TypeId} {ds : List (DataW H)} {d : DataW H} {n : Nat} (hd : d ∈ ds) (hn : n ∈ d.weights P e) : n ∈ DataW.weightsAll P e ds := by
  induction ds with
  | nil => cases hd
  | cons y r ih =>
    simp only [DataW.weightsAll, List.mem_append]
    rcases List.mem_cons.1 hd with rfl | hd
    · exact .inl hn
    · exact .inr (ih hd)
/-- Each slice in it takes no more than the reach. -/
def Sized (P : Program) (t : TypeId) (d : DataW H) : Prop := ∀ n ∈ d.weights P t, n ≤ reachBytes
theorem sized_parts {t e : TypeId} {el sp : List (DataW H)} (hu : P.underlying t = some (.slice e)) (hb : 1 ≤ P.bytesOf e) (h : Sized P t (.slice el sp)) : el.length ≤ reachBytes ∧ ∀ d ∈ el, Sized P e d := by
  constructor
  · have := h ((el.length + sp.length) * P.bytesOf e) (by simp [DataW.weights, hu])
    exact Nat.le_trans (Nat.le_trans (Nat.le_add_right _ sp.length) (Nat.le_mul_of_pos_right _ hb)) this
  · intro d hd n hn
    exact h n (by simp only [DataW.weights, hu, List.mem_cons, List.mem_append]; exact .inr (.inl (weights_all hd hn)))
theorem sized_agg2 {t : TypeId} {f0 f1 : Field} {d0 d1 : DataW H} (hu : P.underlying t = some (.struct #[f0, f1])) (h : Sized P t (.agg [d0, d1])) : Sized P f1.type d1 := fun n hn => h n (by
  simp only [DataW.weights, hu, DataW.weightsEach, List.map_cons, List.map_nil, List.mem_append]
  exact .inr (.inl hn))

theorem ints_open {t e : TypeId} {fuel : Nat} {v : Value} {x : DataW H × List MemPlace} (ht : P.underlying t = some (.slice e)) (he : P.underlying e = some (.int .i64)) (hc : P.cellsOf e = 1) (hb : 1 ≤ P.bytesOf e)
    (h : DataW.trod enc P w 0 (fun _ => true) true fuel t [v] = some x) (hs : Sized P t x.1) :
    ∃ l : List Int, l.length ≤ 140737488355328 ∧ ∃ p cap, v = .slice p l.length cap ∧ l.length ≤ cap ∧ ∀ i, i < l.length → ∃ b off, p = some ⟨b, off, none⟩ ∧ b < w.heap.size ∧ w.cell? ⟨b, off + i, none⟩ = some (.int .i64 (l.getD i 0)) := by
  rcases open_slice1 ht hc h with ⟨hcs, -⟩ | ⟨a, len, cap, m, n, V, D, Pl, hcs, -, hl, hm, hmm, hx, hi⟩
  · simp only [List.cons.injEq, and_true] at hcs
    exact ⟨[], Nat.zero_le _, none, 0, hcs, Nat.le_refl _, fun i hi => absurd hi (Nat.not_lt_zero _)⟩
  · simp only [List.cons.injEq, and_true] at hcs
    simp only [if_true] at hmm
    subst hmm
    have hex : ∀ i, i < len → ∃ n : Int, w.cell? (a.add i) = some (.int .i64 n) := by
      intro i hil
      obtain ⟨h1, h2⟩ := hi i (by omega)
      obtain ⟨n, hn, -, -⟩ := DataW.trod_int he h2
      simp only [List.cons.injEq, and_true] at hn
      exact ⟨n, by rw [h1, hn]⟩
    obtain ⟨S, hS⟩ := choose_lt (α := Int) hex
    have hlen : len ≤ 140737488355328 := by
      rw [hx] at hs
      have := (sized_parts ht hb hs).1
      rw [List.length_map, List.length_range] at this
      exact Nat.le_trans this (by decide)
    refine ⟨(List.range len).map S, by simpa using hlen, some a, m, by simpa using hcs, by simpa using hl, fun i hil => ?_⟩
    rw [List.length_map, List.length_range] at hil
    obtain ⟨b, off, spot⟩ := a
    have h0 := hS 0 (by omega)
    have hsp : spot = none := by have := World.cell?_spot h0; simpa [Addr.add] using this
    subst hsp
    have h1 := hS i hil
    rw [add_none] at h1
    exact ⟨b, off, rfl, cell_lt4 h1, by rw [h1]; simp [List.getD, List.getElem?_map, List.getElem?_range hil]⟩

theorem waits_open {t e ei : TypeId} {f0 f1 : Field} {fuel : Nat} {v : Value} {x : DataW H × List MemPlace} (ht : P.underlying t = some (.slice e)) (he : P.underlying e = some (.struct #[f0, f1])) (hc : P.cellsOf e = 2) (hb : 1 ≤ P.bytesOf e)
    (ho : f0.offset = 0 ∧ f1.offset = 1) (hk : P.cellsOf f0.type = 1 ∧ P.cellsOf f1.type = 1) (h0 : P.underlying f0.type = some (.int .i64)) (h1 : P.underlying f1.type = some (.slice ei)) (hei : P.underlying ei = some (.int .i64)) (hci : P.cellsOf ei = 1) (hbi : 1 ≤ P.bytesOf ei)
    (h : DataW.trod enc P w 0 (fun _ => true) true fuel t [v] = some x) (hs : Sized P t x.1) :
    ∃ Q : List Wv, WvRaw w v Q ∧ Q.length ≤ 140737488355328 ∧ ∀ y ∈ Q, y.f.length ≤ 140737488355328 := by
  rcases open_slice ht h with ⟨hcs, -⟩ | ⟨a, len, cap, m, n, D, Pl, hcs, -, hl, hm, hmm, hx, hi⟩
  · simp only [List.cons.injEq, and_true] at hcs
    exact ⟨[], ⟨⟨none, 0, hcs, Nat.le_refl _, fun i hi => absurd hi (Nat.not_lt_zero _)⟩, fun y hy => by cases hy⟩, Nat.zero_le _, fun y hy => by cases hy⟩
  · simp only [List.cons.injEq, and_true] at hcs
    simp only [if_true] at hmm
    subst hmm
    rw [hc] at hi
    rw [hx] at hs
    have hp := sized_parts ht hb hs
    have hlen : len ≤ 140737488355328 := by
      have := hp.1
      rw [List.length_map, List.length_range] at this
      exact Nat.le_trans this (by decide)
    have hex : ∀ i, i < len → ∃ y : Wv, w.cell? (a.add (i * 2)) = some (.int .i64 y.o) ∧ w.cell? ((a.add (i * 2)).add 1) = some y.v ∧ y.f.length ≤ 140737488355328 ∧ ∃ p cap, y.v = .slice p y.f.length cap ∧ y.f.length ≤ cap ∧ ∀ j, j < y.f.length → ∃ b off, p = some ⟨b, off, none⟩ ∧ b < w.heap.size ∧ w.cell? ⟨b, off + j, none⟩ = some (.int .i64 (y.f.getD j 0)) := by
      intro i hil
      obtain ⟨cs', hc', ht'⟩ := hi i (by omega)
      obtain ⟨y0, y1, n', hxy, hle, t0, t1⟩ := trod_struct2 he ht'
      have hDi : D i = .agg [y0.1, y1.1] := congrArg Prod.fst hxy
      have hsz := hp.2 (D i) (List.mem_map.2 ⟨i, List.mem_range.2 hil, rfl⟩)
      rw [hDi] at hsz
      have hs1 := sized_agg2 he hsz
      obtain ⟨-, hcl, hat⟩ := World.cells?_some hc'
      rw [ho.1, hk.1] at t0
      rw [ho.2, hk.2] at t1
      match cs', hcl with
      | [c0, c1], _ =>
        obtain ⟨n0, e0, -, -⟩ := DataW.trod_int h0 t0
        simp only [List.drop, List.take, List.cons.injEq, and_true] at e0
        simp only [List.drop, List.take] at t1
        obtain ⟨l, hl1, hraw⟩ := ints_open h1 hei hci hbi t1 hs1
        have g0 := hat 0 (by omega)
        have g1 := hat 1 (by omega)
        refine ⟨⟨n0, c1, l⟩, ?_, ?_, hl1, hraw⟩
        · simpa [Addr.add, e0] using g0
        · simpa using g1
    obtain ⟨R, hR⟩ := choose_lt (α := Wv) hex
    have hmem : ∀ y ∈ (List.range len).map R, ∃ i, i < len ∧ R i = y := fun y hy => by
      obtain ⟨i, hi, e⟩ := List.mem_map.1 hy
      exact ⟨i, List.mem_range.1 hi, e⟩
    refine ⟨(List.range len).map R, ⟨⟨some a, m, by simpa using hcs, by simpa using hl, fun i hil => ?_⟩, fun y hy => ?_⟩, by simpa using hlen, fun y hy => ?_⟩
    · rw [List.length_map, List.length_range] at hil
      obtain ⟨b, off, spot⟩ := a
      have g0 := (hR 0 (by omega)).1
      have hsp : spot = none := by have := World.cell?_spot g0; simpa [Addr.add] using this
      subst hsp
      obtain ⟨k0, k1, -, -⟩ := hR i hil
      rw [add_none] at k0 k1
      rw [add_none] at k1
      have hg : ((List.range len).map R).getD i default = R i := by simp [List.getD, List.getElem?_map, List.getElem?_range hil]
      exact ⟨b, off, rfl, cell_lt4 k0, by rw [hg]; exact k0, by rw [hg]; exact k1⟩
    · obtain ⟨i, hi, rfl⟩ := hmem y hy
      exact (hR i hi).2.2.2
    · obtain ⟨i, hi, rfl⟩ := hmem y hy
      exact (hR i hi).2.2.1

theorem lists_open {t s e ei : TypeId} {f0 f1 : Field} {fuel : Nat} {v : Value} {x : DataW H × List MemPlace} (hts : P.underlying t = some (.slice s)) (hcs1 : P.cellsOf s = 1) (hbs : 1 ≤ P.bytesOf s) (ht : P.underlying s = some (.slice e)) (he : P.underlying e = some (.struct #[f0, f1])) (hc : P.cellsOf e = 2) (hb : 1 ≤ P.bytesOf e)
    (ho : f0.offset = 0 ∧ f1.offset = 1) (hk : P.cellsOf f0.type = 1 ∧ P.cellsOf f1.type = 1) (h0 : P.underlying f0.type = some (.int .i64)) (h1 : P.underlying f1.type = some (.slice ei)) (hei : P.underlying ei = some (.int .i64)) (hci : P.cellsOf ei = 1) (hbi : 1 ≤ P.bytesOf ei)
    (h : DataW.trod enc P w 0 (fun _ => true) true fuel t [v] = some x) (hs : Sized P t x.1) :
    ∃ nl F, LLAt w v nl F := by
  rcases open_slice1 hts hcs1 h with ⟨hcs, -⟩ | ⟨a, len, cap, m, n, V, D, Pl, hcs, -, hl, hm, hmm, hx, hi⟩
  · simp only [List.cons.injEq, and_true] at hcs
    exact ⟨0, fun _ => [], none, 0, hcs, Nat.zero_le _, fun i hi => absurd hi (Nat.not_lt_zero _)⟩
  · simp only [List.cons.injEq, and_true] at hcs
    simp only [if_true] at hmm
    subst hmm
    rw [hx] at hs
    have hp := sized_parts hts hbs hs
    have hlen : len ≤ 140737488355328 := by
      have := hp.1
      rw [List.length_map, List.length_range] at this
      exact Nat.le_trans this (by decide)
    have hex : ∀ i, i < len → ∃ Q : List Wv, w.cell? (a.add i) = some (V i) ∧ WvRaw w (V i) Q ∧ Q.length ≤ 140737488355328 ∧ ∀ y ∈ Q, y.f.length ≤ 140737488355328 := by
      intro i hil
      obtain ⟨g1, g2⟩ := hi i (by omega)
      obtain ⟨Q, hQ⟩ := waits_open ht he hc hb ho hk h0 h1 hei hci hbi g2 (hp.2 (D i) (List.mem_map.2 ⟨i, List.mem_range.2 hil, rfl⟩))
      exact ⟨Q, g1, hQ⟩
    obtain ⟨F, hF⟩ := choose_lt (α := List Wv) hex
    refine ⟨len, F, some a, m, hcs, hlen, fun i hil => ?_⟩
    obtain ⟨b, off, spot⟩ := a
    have g0 := (hF 0 (by omega)).1
    have hsp : spot = none := by have := World.cell?_spot g0; simpa [Addr.add] using this
    subst hsp
    obtain ⟨k0, k1, k2, k3⟩ := hF i hil
    rw [add_none] at k0
    exact ⟨b, off, V i, rfl, cell_lt4 k0, k0, k1, k2, k3⟩
end
end Go.Proofs.Ythkpeddgcglpcaa
