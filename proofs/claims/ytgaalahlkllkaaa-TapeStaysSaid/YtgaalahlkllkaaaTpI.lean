/- Contract: all that waits is there. No condition. -/
import Derived.Test.YtgaalahlkllkaaaTpH
namespace Go.Proofs.Ytgaalahlkllkaaa
open Go.RowKit

/-- What settle leaves. -/
def SetOut (B b : Nat) (w : World) (S : List ByteArray) (l : List Pt) (e : Ending) (w' : World) : Prop := e = .returned (.tuple #[]) ∧ (∃ u', Tb B w' b u' (.slice none 0 0) (setP S l) []) ∧ Kt B b w w'
set_option maxRecDepth 100000 in
set_option maxHeartbeats 4000000 in
theorem settle_any (B b : Nat) (w : World) (u v : Value) (S : List ByteArray) (l : List Pt) (hok : TpOk S l) (h : Tb B w b u v S l) (hB : B ≤ b) (hBw : B ≤ w.heap.size) :
    Calls Try.prog 24 #[.pointer (some ⟨b, 0, none⟩)] w (SetOut B b w S l) := by
  obtain ⟨g, c, rfl, hg0, hgl⟩ := h.o.addr hok.low
  obtain ⟨q, d, rfl⟩ := h.p.slice
  obtain ⟨-, x1, -, -, xl⟩ := h.cells
  have HT0 := Lib.hid h
  have HOK := Lib.hid hok
  have hll : l.length ≤ 2048 := hok.many
  have hSl : S.length ≤ 512 := hok.top
  clear h hok
  go_enter Try.func24, Try.ntmps24
  go_wp2
  go_loopg [9] (l.length + 1) (fun g1 s9 wr => ∃ k : Nat, k ≤ l.length ∧ g1 + k = l.length + 1 ∧ s9 = .int .i64 k ∧ Hid (Tb B wr b (.slice (some ⟨g, 0, none⟩) S.length c) (.slice q l.length d) (setP S (l.take k)) l) ∧ Hid (Kt B b w wr))
  case atStart => exact ⟨0, Nat.zero_le _, rfl, rfl, HT0, Lib.hid (Kt.refl _ _ _)⟩
  case round =>
    clear HT0 x1 xl
    obtain ⟨k, hk, hg, rfl, HT, HK⟩ := hrel
    obtain rfl : gk = l.length + 1 - k := by omega
    clear hg
    obtain ⟨x0, x1, f0, f1, xl⟩ := HT.out.cells
    have hlen : (setP S (l.take k)).length = S.length := setP_length _ _
    by_cases hlt : k < l.length
    · have hkn : (k : Int) < (l.length : Int) := by omega
      obtain ⟨p', cap', e', -, -, hat⟩ := (HOK.out.ps HT.out.p).at
      simp only [Value.slice.injEq, true_and] at e'
      obtain ⟨rfl, rfl⟩ := e'
      obtain ⟨pb, off, x, rfl, hb, hc0, hc1, -, hxk, hsz⟩ := hat k hlt
      obtain ⟨z0, z1, z2⟩ := HOK.out.put x (List.mem_of_getElem? hxk)
      obtain ⟨xi, xs⟩ := x
      dsimp only at hc0 hc1 hsz z0 z1 z2
      obtain ⟨j, rfl⟩ : ∃ j : Nat, xi = (j : Int) := ⟨xi.toNat, by omega⟩
      have HNX : Hid (setP S (l.take (k + 1)) = (setP S (l.take k)).set j xs) := Lib.hid (by rw [take_snoc hxk, setP_snoc]; rfl)
      have hu : OwnS B wr (.slice (some ⟨g, 0, none⟩) (setP S (l.take k)).length c) (setP S (l.take k)) := by rw [hlen]; exact HT.out.o
      have hce := OwnS.cell hu j (by rw [hlen]; omega)
      have hgl2 : Lt g wr.heap.size := Nat.lt_of_lt_of_le hgl HK.out.size
      have HST : Hid (∀ X, Below wr.heap.size wr X → Tb B (X.setCell ⟨g, j, none⟩ (.string xs)) b (.slice (some ⟨g, 0, none⟩) S.length c) (.slice (some ⟨pb, off, none⟩) l.length d) (setP S (l.take (k + 1))) l ∧ Kt B b w (X.setCell ⟨g, j, none⟩ (.string xs))) := Lib.hid (by
        intro X hX
        have ht : Tb B X b (.slice (some ⟨g, 0, none⟩) (setP S (l.take k)).length c) (.slice (some ⟨pb, off, none⟩) l.length d) (setP S (l.take k)) l := by rw [hlen]; exact HT.out.below hX
        have h2 := ht.setS j xs
        rw [HNX.out]
        rw [hlen] at h2
        exact ⟨h2.1, (HK.out.trans (Kt.of hX)).trans h2.2⟩)
      obtain ⟨cg, fg⟩ := hce
      clear hu hlen hxk hat HNX HT HK hgl
      go_wp2_with fail
      go_region
      all_goals
        go_wp2
        go_roundg (l.length + 1 - k - 1)
        case measure => omega
        case rel =>
          obtain ⟨h1, h2⟩ := HST.out wr (Below.refl _ _)
          exact ⟨k + 1, by omega, by omega, by go_num, Lib.hid (h1.below (by (repeat (first | exact Below.refl _ _ | assumption | refine nw_more ?_ _ _ | refine nw_alloc ?_ _ | refine nw_drew ?_ | refine nw_drewN ?_ _ | refine nw_set ?_ (by first | (simp; done) | (simp; omega) | omega) _)))), Lib.hid (h2.trans (Kt.of (by (repeat (first | exact Below.refl _ _ | assumption | refine nw_more ?_ _ _ | refine nw_alloc ?_ _ | refine nw_drew ?_ | refine nw_drewN ?_ _ | refine nw_set ?_ (by first | (simp; done) | (simp; omega) | omega) _)))))⟩
    · have hkn : ¬ (k : Int) < (l.length : Int) := by omega
      have ht := HT.out
      rw [List.take_of_length_le (by omega)] at ht
      have h2 := ht.setL (v' := .slice none 0 0) (OwnP.nil B wr)
      have HF := Lib.hid h2
      have HKF := Lib.hid (HK.out.trans (Kt.set (w := wr) hB 1 (.slice none 0 0)))
      clear ht h2 hlen HT HK HOK
      go_wp2
      refine bodyPost_end (v := .tuple #[]) (by simp [results, Try.results24, go_sem]) rfl ⟨rfl, ⟨_, HF.out⟩, HKF.out⟩
end Go.Proofs.Ytgaalahlkllkaaa
