/- Contract: a copy of a tape. No condition. -/
import Derived.Test.YtgaalahlkllkaaaTpG
import Derived.Deep.DeepCutAuto
import Derived.Deep.CutBlock
namespace Go.Proofs.Ytgaalahlkllkaaa
open Go.RowKit

theorem take_snoc {α : Type} {l : List α} {k : Nat} {x : α} (h : l[k]? = some x) : l.take (k + 1) = l.take k ++ [x] := by rw [List.take_add_one, h]; rfl
theorem Tb.growSk {B b : Nat} {w X w1 : World} {u v v1 : Value} {S : List ByteArray} {l : List Pt} {s : ByteArray} {m : Nat} (hm : S.length = m) (h : Tb B w b u v S l) (hB : B ≤ b) (hX : Below w.heap.size w X) (ho : w1.ownsRow B 9 1 v1 (m + 1) (S.map Value.string ++ [.string s])) (hg : X.grownBy w1 u.ownBlock) :
    (w1.cell? ⟨b, 0, none⟩ = some u ∧ w1.frozen? ⟨b, 0, none⟩ = false ∧ Lt b w1.heap.size) ∧ Hid (Tb B (w1.setCell ⟨b, 0, none⟩ v1) b v1 v (S ++ [s]) l ∧ Kt B b w (w1.setCell ⟨b, 0, none⟩ v1)) := by
  subst hm; exact h.growS hB hX ho hg
theorem Tb.growPk {B b : Nat} {w X w1 : World} {u v v1 : Value} {S : List ByteArray} {l : List Pt} {m : Nat} (hm : l.length = m) (y : Pt) (h : Tb B w b u v S l) (hB : B ≤ b) (hX : Below w.heap.size w X) (ho : w1.ownsRow B 40 2 v1 (m + 1) (ptCells l ++ [.int .i64 y.i, .string y.s])) (hg : X.grownBy w1 v.ownBlock) :
    (w1.cell? ⟨b, 1, none⟩ = some v ∧ w1.frozen? ⟨b, 1, none⟩ = false ∧ Lt b w1.heap.size) ∧ Hid (Tb B (w1.setCell ⟨b, 1, none⟩ v1) b u v1 S (l ++ [y]) ∧ Kt B b w (w1.setCell ⟨b, 1, none⟩ v1)) := by
  subst hm; exact h.growP y hB hX ho hg
theorem OwnS.row {B : Nat} {w : World} {v : Value} {S : List ByteArray} {m : Nat} (h : OwnS B w v S) (hm : S.length = m) : w.ownsRow B 9 1 v m (S.map Value.string) := by subst hm; exact h
theorem OwnP.row {B : Nat} {w : World} {v : Value} {l : List Pt} {m : Nat} (h : OwnP B w v l) (hm : l.length = m) : w.ownsRow B 40 2 v m (ptCells l) := by subst hm; exact h
set_option maxRecDepth 100000 in
set_option maxHeartbeats 8000000 in
theorem copied_any (w : World) (us vs : Value) (S : List ByteArray) (l : List Pt) (hS : S.length ≤ 512) (hl : l.length ≤ 2048) (hs : SsAt w us S) (hp : PsAt w vs l) :
    Calls Try.prog 18 #[.agg #[us, vs]] w fun e w' => ∃ u v, e = .returned (.agg #[u, v]) ∧ OwnS w.heap.size w' u S ∧ OwnP w.heap.size w' v l ∧ Below w.heap.size w w' := by
  obtain ⟨i0, hi, hz0, hz1, hz2⟩ := info_parts info_string
  have HI := Lib.hid hi
  obtain ⟨j0, hj, hy0, hy1, hy2⟩ := info_parts info_put
  have HJ := Lib.hid hj
  obtain ⟨p, c, rfl, -, -, hsa⟩ := hs.at
  obtain ⟨q, d, rfl, -, -, hpa⟩ := hp.at
  have HS := Lib.hid hsa
  have HP := Lib.hid hpa
  clear hs hp hsa hpa hi hj
  go_enter Try.func18, Try.ntmps18
  go_wp2
  go_loopg [11] (S.length + 1) (fun g s11 wr => ∃ (k : Nat) (u : Value), k ≤ S.length ∧ g + k = S.length + 1 ∧ s11 = .int .i64 k ∧ Hid (Tb w.heap.size wr (w.heap.size + 1 + 1) u (.slice none 0 0) (S.take k) []) ∧ Hid (Blc wr w.heap.size 25 #[.slice p S.length c, .slice q l.length d]) ∧ Hid (Blc wr (w.heap.size + 1) 25 #[.slice none 0 0, .slice none 0 0]) ∧ Hid (Below w.heap.size w wr))
  case atStart => exact ⟨0, .slice none 0 0, Nat.zero_le _, rfl, rfl, Lib.hid ⟨Blc.newAt _ _ _ (by simp), OwnS.nil _ _, OwnP.nil _ _⟩, Lib.hid (((Blc.new _ _ _).alloc _).alloc _), Lib.hid ((Blc.newAt _ _ _ (by simp)).alloc _), Lib.hid (by (repeat (first | exact Below.refl _ _ | assumption | refine nw_more ?_ _ _ | refine nw_alloc ?_ _ | refine nw_drew ?_ | refine nw_drewN ?_ _ | refine nw_set ?_ (by first | (simp; done) | (simp; omega) | omega) _)))⟩
  case round =>
    obtain ⟨k, u, hk, hg, rfl, HT, HX, HR, HB⟩ := hrel
    obtain rfl : gk = S.length + 1 - k := by omega
    clear hg
    have hlen : (S.take k).length = k := by rw [List.length_take]; omega
    obtain ⟨q0, c0, e0⟩ := HT.out.o.form
    rw [hlen] at e0
    subst e0
    have HLEN := Lib.hid hlen
    have HO := Lib.hid (HT.out.o.row hlen)
    obtain ⟨x0, -, -, -, xl⟩ := HT.out.cells
    clear hlen
    have hzz : w.heap.size ≤ wr.heap.size := HB.out.size
    by_cases hlt : k < S.length
    · have hkn : (k : Int) < (S.length : Int) := by omega
      obtain ⟨b, off, s, rfl, hb, hc0, -, hxk, hsz⟩ := HS.out k hlt
      have hc1 : wr.cell? ⟨b, off + k, none⟩ = some (.string s) := (HB.out.cell (p := ⟨b, off + k, none⟩) hb.out).trans hc0
      have hb1 : Lt b wr.heap.size := Nat.lt_of_lt_of_le hb.out hzz
      have HTK := Lib.hid (take_snoc hxk)
      clear hc0 hb hxk
      go_wp2_with fail
      go_region_law (first | (refine step_append_own rfl (.tmp 16) (.tmp 19) _ rfl w.heap.size 9 i0 (.string { data := #[] }) 1 16 Try.underlying22 HI.out hz0 hz1 hz2 rfl (by decide) _ k ((S.take k).map Value.string) rfl (own_below HO.out (by (repeat (first | exact Below.refl _ _ | assumption | refine nw_more ?_ _ _ | refine nw_alloc ?_ _ | refine nw_drew ?_ | refine nw_drewN ?_ _ | refine nw_set ?_ (by first | (simp; done) | (simp; omega) | omega) _)))) ⟨_, 0, none⟩ 1 1 [.string s] rfl rfl (news1 (by simp [go_sem])) (news1_one rfl) (by unfold maxLen; omega) (by omega) (by first | (simp; done) | (simp; omega) | omega) ?_; intro v1 w1 hown1 hgrow1; obtain ⟨q1, qc1, rfl⟩ := slice_own hown1 (Nat.succ_pos _); obtain ⟨⟨y0, yf, yl⟩, HG1⟩ := HT.out.growSk HLEN.out (by omega) (by (repeat (first | exact Below.refl _ _ | assumption | refine nw_more ?_ _ _ | refine nw_alloc ?_ _ | refine nw_drew ?_ | refine nw_drewN ?_ _ | refine nw_set ?_ (by first | (simp; done) | (simp; omega) | omega) _))) hown1 hgrow1; clear hown1 hgrow1) | (rw [if_pos (by simp [Region.wanted])]; unfold Oper.wp execOp; simp [go_sem]; refine (clone_any s _ hsz).mono ?_; (rintro e w' ⟨rfl, hb⟩; obtain ⟨n, es, rfl⟩ := below_more hb; clear hb)))
      all_goals
        go_wp2
        go_roundg (S.length + 1 - k - 1)
        case measure => omega
        case rel =>
          obtain ⟨h1, h2⟩ := HG1.out
          rw [← HTK.out] at h1
          exact ⟨k + 1, _, by omega, by omega, by go_num, Lib.hid h1, Lib.hid (HX.out.kt h2 (by omega) (by decide) (by decide)), Lib.hid (HR.out.kt h2 (by omega) (by decide) (by decide)), Lib.hid (HB.out.trans (h2.below hzz))⟩
    · have hkn : ¬ (k : Int) < (S.length : Int) := by omega
      obtain rfl : k = S.length := by omega
      have ht1 := HT.out
      rw [List.take_length] at ht1
      have HT1 := Lib.hid ht1
      have z1 := HX.out.cell 1
      have zl : Lt w.heap.size wr.heap.size := HX.out.lt
      simp only [List.getElem?_toArray, List.getElem?_cons_succ, List.getElem?_cons_zero] at z1
      clear ht1 HT HLEN HS HO
      go_wp2
      go_loopg [26] (l.length + 1) (fun g s26 wx => ∃ (k : Nat) (v : Value), k ≤ l.length ∧ g + k = l.length + 1 ∧ s26 = .int .i64 k ∧ Hid (Tb w.heap.size wx (w.heap.size + 1 + 1) (.slice q0 S.length c0) v S (l.take k)) ∧ Hid (Blc wx (w.heap.size + 1) 25 #[.slice none 0 0, .slice none 0 0]) ∧ Hid (Below w.heap.size w wx))
      case atStart => exact ⟨0, .slice none 0 0, Nat.zero_le _, rfl, rfl, HT1, HR, HB⟩
      case round =>
        clear HT1 HR HB HX z1 zl x0 xl hzz
        obtain ⟨k, v, hk, hg, rfl, HT, HR, HB⟩ := hrel
        obtain rfl : gk = l.length + 1 - k := by omega
        clear hg
        have hlen : (l.take k).length = k := by rw [List.length_take]; omega
        obtain ⟨q1, c1, e1⟩ := HT.out.p.slice
        rw [hlen] at e1
        subst e1
        have HLEN := Lib.hid hlen
        have HO := Lib.hid (HT.out.p.row hlen)
        obtain ⟨-, x1, -, -, xl⟩ := HT.out.cells
        clear hlen
        have hzz : w.heap.size ≤ wr.heap.size := HB.out.size
        by_cases hlt : k < l.length
        · have hkn : (k : Int) < (l.length : Int) := by omega
          obtain ⟨b, off, x, rfl, hb, ha0, ha1, -, hxk, hsz⟩ := HP.out k hlt
          have hc0 : wr.cell? ⟨b, off + k * 2, none⟩ = some (.int .i64 x.i) := (HB.out.cell (p := ⟨b, off + k * 2, none⟩) hb.out).trans ha0
          have hc1 : wr.cell? ⟨b, off + k * 2 + 1, none⟩ = some (.string x.s) := (HB.out.cell (p := ⟨b, off + k * 2 + 1, none⟩) hb.out).trans ha1
          have hb1 : Lt b wr.heap.size := Nat.lt_of_lt_of_le hb.out hzz
          have HTK := Lib.hid (take_snoc hxk)
          obtain ⟨xi, xs⟩ := x
          dsimp only at hc0 hc1 hsz
          clear ha0 ha1 hb hxk
          go_wp2_with fail
          go_region_law (first | (refine step_append_own rfl (.tmp 31) (.tmp 34) _ rfl w.heap.size 40 j0 (.agg #[.int .i64 0, .string { data := #[] }]) 2 24 Try.underlying23 HJ.out hy0 hy1 hy2 rfl (by decide) _ k (ptCells (l.take k)) rfl (own_below HO.out (by (repeat (first | exact Below.refl _ _ | assumption | refine nw_more ?_ _ _ | refine nw_alloc ?_ _ | refine nw_drew ?_ | refine nw_drewN ?_ _ | refine nw_set ?_ (by first | (simp; done) | (simp; omega) | omega) _)))) ⟨_, 0, none⟩ 1 1 [.int .i64 xi, .string xs] rfl rfl (news2 (by simp [go_sem]) (by simp [go_sem])) (news2_one rfl rfl) (by unfold maxLen; omega) (by omega) (by first | (simp; done) | (simp; omega) | omega) ?_; intro v1 w1 hown1 hgrow1; obtain ⟨q2, qc2, rfl⟩ := slice_own hown1 (Nat.succ_pos _); obtain ⟨⟨y0, yf, yl⟩, HG1⟩ := HT.out.growPk HLEN.out ⟨xi, xs⟩ (by omega) (by (repeat (first | exact Below.refl _ _ | assumption | refine nw_more ?_ _ _ | refine nw_alloc ?_ _ | refine nw_drew ?_ | refine nw_drewN ?_ _ | refine nw_set ?_ (by first | (simp; done) | (simp; omega) | omega) _))) hown1 hgrow1; clear hown1 hgrow1) | (rw [if_pos (by simp [Region.wanted])]; unfold Oper.wp execOp; simp [go_sem]; refine (copiedPut_any xi xs _ hsz).mono ?_; (rintro e w' ⟨rfl, hb⟩; obtain ⟨n, es, rfl⟩ := below_more hb; clear hb)))
          all_goals
            go_wp2
            go_roundg (l.length + 1 - k - 1)
            case measure => omega
            case rel =>
              obtain ⟨h1, h2⟩ := HG1.out
              rw [← HTK.out] at h1
              exact ⟨k + 1, _, by omega, by omega, by go_num, Lib.hid h1, Lib.hid (HR.out.kt h2 (by omega) (by decide) (by decide)), Lib.hid (HB.out.trans (h2.below hzz))⟩
        · have hkn : ¬ (k : Int) < (l.length : Int) := by omega
          obtain rfl : k = l.length := by omega
          have ht1 := HT.out
          rw [List.take_length] at ht1
          obtain ⟨x0, -, -, -, -⟩ := HT.out.cells
          have r0 := HR.out.cell 0
          have r1 := HR.out.cell 1
          have f0 := HR.out.free 0
          have f1 := HR.out.free 1
          have rl : Lt (w.heap.size + 1) wr.heap.size := HR.out.lt
          simp only [List.getElem?_toArray, List.getElem?_cons_succ, List.getElem?_cons_zero] at r0 r1
          have hn1 := not_own ht1.o HR.out (by decide)
          have hn2 := not_own ht1.p HR.out (by decide)
          have HF1 := Lib.hid (ownsRow_setCell_other (a := ⟨w.heap.size + 1, 1, none⟩) (ownsRow_setCell_other (a := ⟨w.heap.size + 1, 0, none⟩) ht1.o hn1 (.slice q0 S.length c0)) hn1 (.slice q1 l.length c1))
          have HF2 := Lib.hid (ownsRow_setCell_other (a := ⟨w.heap.size + 1, 1, none⟩) (ownsRow_setCell_other (a := ⟨w.heap.size + 1, 0, none⟩) ht1.p hn2 (.slice q0 S.length c0)) hn2 (.slice q1 l.length c1))
          have hbel := HB.out
          obtain ⟨t0, t1, t2⟩ := HR.out.two (.slice q0 S.length c0) (.slice q1 l.length c1)
          clear ht1 HLEN HT HR HB HP hn1 hn2 HO
          go_wp2
          refine bodyPost_ret (v := .agg #[.slice q0 S.length c0, .slice q1 l.length c1]) (by simp [results, Try.results18, go_sem, t0, t1, t2]) rfl ⟨_, _, rfl, HF1.out, HF2.out, ?_⟩
          (repeat (first | exact Below.refl _ _ | assumption | refine nw_more ?_ _ _ | refine nw_alloc ?_ _ | refine nw_drew ?_ | refine nw_drewN ?_ _ | refine nw_set ?_ (by first | (simp; done) | (simp; omega) | omega) _))
end Go.Proofs.Ytgaalahlkllkaaa
