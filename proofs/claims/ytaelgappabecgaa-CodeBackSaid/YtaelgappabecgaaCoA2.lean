/- Contracts: a sink's flag, text, fill. No condition. -/
import Derived.Test.YtaelgappabecgaaCoA
import Derived.Test.YtaelgappabecgaaCoZ
namespace Go.Proofs.Ytaelgappabecgaa
open Go.RowKit

set_option maxHeartbeats 4000000 in
theorem sinkFlag_any (B b : Nat) (w : World) (u : Value) (l : List UInt8) (g : Bool) (h : Snk B w b u l) (hl : l.length ≤ 100000) (hB : B ≤ w.heap.size) :
    Calls Try.prog 32 #[.pointer (some ⟨b, 0, none⟩), .bool g] w fun e w' => SnkOut B b w (l ++ encN (if g then 1 else 0) 1) e w' := by
  have HS := Lib.hid h
  clear h
  cases g
  · go_enter Try.func32, Try.ntmps32
    go_wp2_with fail
    refine (sinkNumber_any B b _ u l 0 1 (by decide) (by decide) HS.out hl hB).mono ?_
    rintro e w' ⟨u', rfl, h1, h2⟩
    have H1 := Lib.hid h1
    have H2 := Lib.hid h2
    clear h1 h2
    go_wp2
    exact bodyPost_end (v := .tuple #[]) (by simp [results, Try.results32, go_sem]) rfl ⟨u', rfl, H1.out, H2.out⟩
  · go_enter Try.func32, Try.ntmps32
    go_wp2_with fail
    refine (sinkNumber_any B b _ u l 1 1 (by decide) (by decide) HS.out hl hB).mono ?_
    rintro e w' ⟨u', rfl, h1, h2⟩
    have H1 := Lib.hid h1
    have H2 := Lib.hid h2
    clear h1 h2
    go_wp2
    exact bodyPost_end (v := .tuple #[]) (by simp [results, Try.results32, go_sem]) rfl ⟨u', rfl, H1.out, H2.out⟩

set_option maxHeartbeats 4000000 in
theorem sinkText_any (B b : Nat) (w : World) (u : Value) (l : List UInt8) (s : ByteArray) (hs : s.size ≤ 1000000) (h : Snk B w b u l) (hl : l.length ≤ 90000) (hB : B ≤ w.heap.size) :
    Calls Try.prog 33 #[.pointer (some ⟨b, 0, none⟩), .string s] w fun e w' => SnkOut B b w (l ++ (encN s.size 1 ++ s.data.toList)) e w' := by
  obtain ⟨i0, hi, hz0, hz1, hz2⟩ := info_parts info_u8
  have HI := Lib.hid hi
  have HS := Lib.hid h
  clear hi h
  go_enter Try.func33, Try.ntmps33
  go_wp2_with fail
  refine (sinkNumber_any B b _ u l s.size 1 (by omega) (by decide) HS.out (by omega) hB).mono ?_
  rintro e w1 ⟨u1, rfl, h1, h2⟩
  have hsz : B ≤ w1.heap.size := by have := h2.size; omega
  have c0 := h1.blk.cell 0
  have f0 := h1.blk.free 0
  have hlt : Lt b w1.heap.size := h1.blk.lt
  simp only [List.getElem?_toArray, List.getElem?_cons_zero] at c0
  have H1 := Lib.hid h1
  have H2 := Lib.hid h2
  clear h1 h2 HS
  go_wp2_with (at_builtin; refine Lib.wpList_append_own_string _ rfl _ _ 41 9 rfl B 5 i0 Try.underlying41 Try.underlying9 HI.out hz0 hz1 hz2 _ (l ++ encN s.size 1).length (Lib.byteCells (l ++ encN s.size 1)) rfl H1.out.own s rfl (by simp only [List.length_append, encN_length]; unfold maxLen; omega) (by simp only [List.length_append, encN_length]; omega) (by omega) ?_)
  intro v1 w2 ho hg hnil
  clear hnil
  have hb2 : Blc w2 b 69 #[u1] := H1.out.blk.grown hg (not_own H1.out.own H1.out.blk (by decide))
  have x0 := hb2.cell 0
  have xf := hb2.free 0
  have hlt2 : Lt b w2.heap.size := hb2.lt
  simp only [List.getElem?_toArray, List.getElem?_cons_zero] at x0
  obtain ⟨q1, qc1, rfl⟩ := slice_own ho (by rw [encN_length]; omega)
  have hp := Snk.put H1.out (OwnB.snoc (m := s.data.toList) ho (by rw [List.length_append, Array.length_toList]; rfl)) hg
  rw [List.append_assoc] at hp
  have HP := Lib.hid hp
  clear hb2 ho hg hp
  go_wp2
  exact bodyPost_end (v := .tuple #[]) (by simp [results, Try.results33, go_sem]) rfl ⟨_, rfl, HP.out.1, H2.out.trans HP.out.2⟩

set_option maxRecDepth 100000 in
set_option maxHeartbeats 4000000 in
theorem sinkFill_any (B b : Nat) (w : World) (u : Value) (l : List UInt8) (n : Nat) (hn : n ≤ 1000) (h : Snk B w b u l) (hl : l.length ≤ n) (h0 : 0 < l.length) (hB : B ≤ w.heap.size) :
    Calls Try.prog 34 #[.pointer (some ⟨b, 0, none⟩), .int .i64 n] w fun e w' => SnkOut B b w (l ++ List.replicate (n - l.length) 0) e w' := by
  obtain ⟨i0, hi, hz0, hz1, hz2⟩ := info_parts info_u8
  have HI := Lib.hid hi
  have HS := Lib.hid h
  obtain ⟨p, c, rfl⟩ := h.own.slice
  have c0 := h.blk.cell 0
  have f0 := h.blk.free 0
  have hlt : Lt b w.heap.size := h.blk.lt
  simp only [List.getElem?_toArray, List.getElem?_cons_zero] at c0
  have hw1 : IntKind.i64.wrap ((n : Int) - (l.length : Int)) = ((n - l.length : Nat) : Int) := by rw [IntWalk.i64_in _ (by omega)]; omega
  have HG : Hid (∀ X Y v1 w1, Below w.heap.size w X → w1.ownsRow B 5 1 v1 (l.length + (n - l.length)) (Lib.byteCells l ++ Lib.byteCells (List.replicate (n - l.length) 0)) → X.grownBy w1 (Value.slice p l.length c).ownBlock → Y = w1.setCell ⟨b, 0, none⟩ v1 → Snk B Y b v1 (l ++ List.replicate (n - l.length) 0) ∧ KpS B w Y) := Lib.hid (by
    intro X Y v1 w1 hX ho hg hY
    subst hY
    have h1 := Snk.put (Snk.below HS.out hX) (OwnB.snoc ho (by simp)) hg
    exact ⟨h1.1, (KpS.of hX).trans h1.2⟩)
  have HL : Hid (∀ (X w1 : World) v1, Below w.heap.size w X → w1.ownsRow B 5 1 v1 (l.length + (n - l.length)) (Lib.byteCells l ++ Lib.byteCells (List.replicate (n - l.length) 0)) → X.grownBy w1 (Value.slice p l.length c).ownBlock → w1.cell? ⟨b, 0, none⟩ = some (.slice p l.length c) ∧ w1.frozen? ⟨b, 0, none⟩ = false ∧ Lt b w1.heap.size) := Lib.hid (by
    intro X w1 v1 hX ho hg
    have hb1 := (HS.out.blk.below hX).grown hg (not_own HS.out.own HS.out.blk (by decide))
    exact ⟨hb1.cell 0, hb1.free 0, hb1.lt⟩)
  clear hi h
  go_enter Try.func34, Try.ntmps34
  go_wp2_with fail
  go_region_law (refine step_append_zeros _ rfl (.tmp 8) (.tmp 15) _ _ rfl B 5 i0 Try.underlying41 Try.underlying3 HI.out hz0 hz1 hz2 _ l.length (Lib.byteCells l) rfl (own_below HS.out.own (by (repeat (first | exact Below.refl _ _ | assumption | refine nw_more ?_ _ _ | refine nw_alloc ?_ _ | refine nw_drew ?_ | refine nw_drewN ?_ _ | refine nw_set ?_ (by first | (simp; done) | (simp; omega) | omega) _)))) h0 (n - l.length) rfl (by omega) (by omega) (by first | (simp; done) | (simp; omega) | omega) ?_; intro v1 w1 hown1 hgrow1; obtain ⟨q1, qc1, rfl⟩ := slice_own hown1 (by omega); obtain ⟨x0, xf, hlt1⟩ := HL.out _ w1 _ (by (repeat (first | exact Below.refl _ _ | assumption | refine nw_more ?_ _ _ | refine nw_alloc ?_ _ | refine nw_drew ?_ | refine nw_drewN ?_ _ | refine nw_set ?_ (by first | (simp; done) | (simp; omega) | omega) _))) hown1 hgrow1; have HG1 := Lib.hid (fun Y => HG.out _ Y _ w1 (by (repeat (first | exact Below.refl _ _ | assumption | refine nw_more ?_ _ _ | refine nw_alloc ?_ _ | refine nw_drew ?_ | refine nw_drewN ?_ _ | refine nw_set ?_ (by first | (simp; done) | (simp; omega) | omega) _))) hown1 hgrow1); clear hown1 hgrow1)
  all_goals
    obtain ⟨hs1, hk1⟩ := HG1.out _ rfl
    simp only [show l.length + (n - l.length) = n by omega] at hs1 hk1
    go_wp2
    exact bodyPost_end (v := .tuple #[]) (by simp [results, Try.results34, go_sem]) rfl ⟨_, rfl, hs1, hk1⟩
end Go.Proofs.Ytaelgappabecgaa
