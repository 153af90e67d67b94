/- Contracts: the page's empty tape; the program's. No condition. -/
import Derived.Test.YtgaalahlkllkaaaTpE
namespace Go.Proofs.Ytgaalahlkllkaaa
open Go.RowKit

theorem Tb.growS {B b : Nat} {w X w1 : World} {u v v1 : Value} {S : List ByteArray} {l : List Pt} {s : ByteArray} (h : Tb B w b u v S l) (hB : B ≤ b) (hX : Below w.heap.size w X) (ho : w1.ownsRow B 9 1 v1 (S.length + 1) (S.map Value.string ++ [.string s])) (hg : X.grownBy w1 u.ownBlock) :
    (w1.cell? ⟨b, 0, none⟩ = some u ∧ w1.frozen? ⟨b, 0, none⟩ = false ∧ Lt b w1.heap.size) ∧ Hid (Tb B (w1.setCell ⟨b, 0, none⟩ v1) b v1 v (S ++ [s]) l ∧ Kt B b w (w1.setCell ⟨b, 0, none⟩ v1)) := by
  have hx := h.below hX
  have hb1 : Blc w1 b 25 #[u, v] := hx.blk.grown hg (not_own hx.o hx.blk (by decide))
  have h2 := hx.addS hB ho hg
  exact ⟨⟨hb1.cell 0, hb1.free 0, hb1.lt⟩, Lib.hid ⟨h2.1, (Kt.of hX).trans h2.2⟩⟩
theorem Tb.growP {B b : Nat} {w X w1 : World} {u v v1 : Value} {S : List ByteArray} {l : List Pt} (y : Pt) (h : Tb B w b u v S l) (hB : B ≤ b) (hX : Below w.heap.size w X) (ho : w1.ownsRow B 40 2 v1 (l.length + 1) (ptCells l ++ [.int .i64 y.i, .string y.s])) (hg : X.grownBy w1 v.ownBlock) :
    (w1.cell? ⟨b, 1, none⟩ = some v ∧ w1.frozen? ⟨b, 1, none⟩ = false ∧ Lt b w1.heap.size) ∧ Hid (Tb B (w1.setCell ⟨b, 1, none⟩ v1) b u v1 S (l ++ [y]) ∧ Kt B b w (w1.setCell ⟨b, 1, none⟩ v1)) := by
  have hx := h.below hX
  have hb1 : Blc w1 b 25 #[u, v] := hx.blk.grown hg (not_own hx.p hx.blk (by decide))
  have h2 := hx.addP hB ho hg
  exact ⟨⟨hb1.cell 1, hb1.free 1, hb1.lt⟩, Lib.hid ⟨h2.1, (Kt.of hX).trans h2.2⟩⟩

/-- A result's two cells, set one behind the other. -/
theorem Blc.two {w : World} {r : Nat} {a0 a1 : Value} (h : Blc w r 25 #[a0, a1]) (u v : Value) : ((w.setCell ⟨r, 0, none⟩ u).setCell ⟨r, 1, none⟩ v).cell? ⟨r, 0, none⟩ = some u ∧ ((w.setCell ⟨r, 0, none⟩ u).setCell ⟨r, 1, none⟩ v).cell? ⟨r, 1, none⟩ = some v ∧ (w.setCell ⟨r, 0, none⟩ u).cell? ⟨r, 0, none⟩ = some u := by
  have h2 := (h.set 0 u).set 1 v
  have q0 := h2.cell 0
  have q1 := h2.cell 1
  have s0 := (h.set 0 u).cell 0
  simp at q0 q1 s0
  exact ⟨q0, q1, s0⟩
set_option maxRecDepth 100000 in
set_option maxHeartbeats 4000000 in
theorem rNew_any (N : Nat) (w : World) (hn : N ≤ 512) :
    Calls Try.prog 6 #[.int .i64 N] w fun e w' => ∃ u, e = .returned (.agg #[u, .slice none 0 0]) ∧ OwnS w.heap.size w' u (emptyS N) ∧ Below w.heap.size w w' := by
  obtain ⟨i0, hi, hz0, hz1, hz2⟩ := info_parts info_string
  have HI := Lib.hid hi
  clear hi
  go_enter Try.func6, Try.ntmps6
  go_wp2
  go_loopg [4] (N + 1) (fun g s4 wr => ∃ (k : Nat) (u : Value), k ≤ N ∧ g + k = N + 1 ∧ s4 = .int .i64 k ∧ Hid (Tb w.heap.size wr (w.heap.size + 1) u (.slice none 0 0) (emptyS k) []) ∧ Hid (Blc wr w.heap.size 25 #[.slice none 0 0, .slice none 0 0]) ∧ Hid (Below w.heap.size w wr))
  case atStart => exact ⟨0, .slice none 0 0, Nat.zero_le _, rfl, rfl, Lib.hid ⟨Blc.newAt _ _ _ (by simp), OwnS.nil _ _, OwnP.nil _ _⟩, Lib.hid ((Blc.new _ _ _).alloc _), Lib.hid (by (repeat (first | exact Below.refl _ _ | assumption | refine nw_more ?_ _ _ | refine nw_alloc ?_ _ | refine nw_drew ?_ | refine nw_drewN ?_ _ | refine nw_set ?_ (by first | (simp; done) | (simp; omega) | omega) _)))⟩
  case round =>
    obtain ⟨k, u, hk, hg, rfl, HT, HR, HB⟩ := hrel
    obtain rfl : gk = N + 1 - k := by omega
    clear hg
    obtain ⟨q0, c0, rfl⟩ := HT.out.o.form
    obtain ⟨x0, -, -, -, xl⟩ := HT.out.cells
    have HLEN := Lib.hid (emptyS_length k)
    by_cases hlt : k < N
    · have hkn : (k : Int) < (N : Int) := by omega
      have hzz : w.heap.size ≤ wr.heap.size := HB.out.size
      go_wp2_with fail
      go_region_law (first | (refine step_append_own rfl (.tmp 11) (.tmp 13) _ rfl w.heap.size 9 i0 (.string { data := #[] }) 1 16 Try.underlying22 HI.out hz0 hz1 hz2 rfl (by decide) _ (emptyS k).length ((emptyS k).map Value.string) rfl (own_below HT.out.o (by (repeat (first | exact Below.refl _ _ | assumption | refine nw_more ?_ _ _ | refine nw_alloc ?_ _ | refine nw_drew ?_ | refine nw_drewN ?_ _ | refine nw_set ?_ (by first | (simp; done) | (simp; omega) | omega) _)))) ⟨_, 0, none⟩ 1 1 [.string (zeroT 32)] rfl rfl (news1 (by simp [go_sem])) (news1_one rfl) (by have := HLEN.out; unfold maxLen; omega) (by have := HLEN.out; omega) (by first | (simp; done) | (simp; omega) | omega) ?_; intro v1 w1 hown1 hgrow1; obtain ⟨q1, qc1, rfl⟩ := slice_own hown1 (Nat.succ_pos _); obtain ⟨⟨y0, yf, yl⟩, HG1⟩ := HT.out.growS (Nat.le_succ _) (by (repeat (first | exact Below.refl _ _ | assumption | refine nw_more ?_ _ _ | refine nw_alloc ?_ _ | refine nw_drew ?_ | refine nw_drewN ?_ _ | refine nw_set ?_ (by first | (simp; done) | (simp; omega) | omega) _))) hown1 hgrow1; clear hown1 hgrow1) | (rw [if_pos (by simp [Region.wanted])]; unfold Oper.wp execOp; simp [go_sem]; refine (zeros_any 32 _ (by decide)).mono ?_; (rintro e w' ⟨rfl, hb⟩; obtain ⟨n, es, rfl⟩ := below_more hb; clear hb)))
      all_goals
        go_wp2
        go_roundg (N + 1 - k - 1)
        case measure => omega
        case rel =>
          obtain ⟨h1, h2⟩ := HG1.out
          rw [← emptyS_succ] at h1
          exact ⟨k + 1, _, by omega, by omega, by go_num, Lib.hid h1, Lib.hid (HR.out.kt h2 (by omega) (by decide) (by decide)), Lib.hid (HB.out.trans (h2.below hzz))⟩
    · have e : k = N := by omega
      have hkn : ¬ (k : Int) < (N : Int) := by omega
      obtain ⟨-, x1, -, -, -⟩ := HT.out.cells
      have r0 := HR.out.cell 0
      have r1 := HR.out.cell 1
      have f0 := HR.out.free 0
      have f1 := HR.out.free 1
      have rl : Lt w.heap.size wr.heap.size := HR.out.lt
      simp only [List.getElem?_toArray, List.getElem?_cons_succ, List.getElem?_cons_zero] at r0 r1
      have hfin : OwnS w.heap.size ((wr.setCell ⟨w.heap.size, 0, none⟩ (.slice q0 (emptyS k).length c0)).setCell ⟨w.heap.size, 1, none⟩ (.slice none 0 0)) (.slice q0 (emptyS k).length c0) (emptyS N) := by
        have hn2 := not_own HT.out.o HR.out (by decide)
        rw [← e]
        exact ownsRow_setCell_other (a := ⟨w.heap.size, 1, none⟩) (ownsRow_setCell_other (a := ⟨w.heap.size, 0, none⟩) HT.out.o hn2 _) hn2 _
      have HFIN := Lib.hid hfin
      have hbel := HB.out
      obtain ⟨t0, t1, t2⟩ := HR.out.two (.slice q0 (emptyS k).length c0) (.slice none 0 0)
      clear hfin e HR HB HT
      go_wp2
      refine bodyPost_ret (v := .agg #[.slice q0 (emptyS k).length c0, .slice none 0 0]) (by simp [results, Try.results6, go_sem, t0, t1, t2]) rfl ⟨_, rfl, HFIN.out, ?_⟩
      (repeat (first | exact Below.refl _ _ | assumption | refine nw_more ?_ _ _ | refine nw_alloc ?_ _ | refine nw_drew ?_ | refine nw_drewN ?_ _ | refine nw_set ?_ (by first | (simp; done) | (simp; omega) | omega) _))
end Go.Proofs.Ytgaalahlkllkaaa
