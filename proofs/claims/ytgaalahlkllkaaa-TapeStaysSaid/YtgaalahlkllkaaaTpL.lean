/- Contracts: what stays in a crash; a crash. No condition. -/
import Derived.Test.YtgaalahlkllkaaaTpK
namespace Go.Proofs.Ytgaalahlkllkaaa
open Go.RowKit

/-- What staying answers. -/
def StayOut (w : World) (M : List Pt) (e : Ending) (w' : World) : Prop := ∃ u, e = .returned u ∧ OwnP w.heap.size w' u M ∧ Below w.heap.size w w'
set_option maxHeartbeats 1000000 in
theorem staying_nil (w : World) (p : Option Addr) (c : Nat) (kv : Value) :
    Calls Try.prog 23 #[.slice p 0 c, kv] w (StayOut w []) := by
  go_enter Try.func23, Try.ntmps23
  go_wp2
  go_loopg [5, 10] 1 (fun g s5 s10 wr => w = wr ∧ g = 1 ∧ s5 = .slice none 0 0 ∧ s10 = .int .i64 0)
  case atStart => exact ⟨rfl, rfl, rfl, rfl⟩
  case round =>
    obtain ⟨rfl, -, rfl, rfl⟩ := hrel
    go_wp2
    go_ret
    exact ⟨_, rfl, OwnP.nil _ _, by (repeat (first | exact Below.refl _ _ | assumption | refine nw_more ?_ _ _ | refine nw_alloc ?_ _ | refine nw_drew ?_ | refine nw_drewN ?_ _ | refine nw_set ?_ (by first | (simp; done) | (simp; omega) | omega) _))⟩
set_option maxHeartbeats 2000000 in
theorem staying_none (w : World) (v : Value) (l : List Pt) (h : PsAt w v l) :
    Calls Try.prog 23 #[v, .slice none 0 0] w (StayOut w []) := by
  obtain ⟨p, cap, rfl, hl, hcap, hat⟩ := h.at
  have H := Lib.hid hat
  clear h hat
  go_enter Try.func23, Try.ntmps23
  go_wp2
  go_loopg [5, 10] (l.length + 1) (fun g s5 s10 wr => (∃ n es, wr = more w n es) ∧ ∃ k : Nat, k ≤ l.length ∧ g + k = l.length + 1 ∧ s5 = .slice none 0 0 ∧ s10 = .int .i64 k)
  case atStart => exact ⟨below_more (Below.refl _ _), 0, Nat.zero_le _, rfl, rfl, rfl⟩
  case round =>
    obtain ⟨⟨n, es, rfl⟩, k, hk, hg, rfl, rfl⟩ := hrel
    obtain rfl : gk = l.length + 1 - k := by omega
    clear hg
    by_cases hlt : k < l.length
    · have hkl : (k : Int) < (l.length : Int) := by omega
      obtain ⟨b, off, x, rfl, hb, ha0, ha1, -, -, hsz⟩ := H.out k hlt
      obtain ⟨xi, xs⟩ := x
      dsimp only at ha0 ha1 hsz
      clear H
      go_wp2_with fail
      go_roundg (l.length + 1 - k - 1)
      case measure => omega
      case rel => exact ⟨below_more (by (repeat (first | exact Below.refl _ _ | assumption | refine nw_more ?_ _ _ | refine nw_alloc ?_ _ | refine nw_drew ?_ | refine nw_drewN ?_ _ | refine nw_set ?_ (by first | (simp; done) | (simp; omega) | omega) _))), k + 1, by omega, by omega, rfl, by go_num⟩
    · have hkl : ¬ (k : Int) < (l.length : Int) := by omega
      clear H
      go_wp2
      go_ret
      exact ⟨_, rfl, OwnP.nil _ _, by (repeat (first | exact Below.refl _ _ | assumption | refine nw_more ?_ _ _ | refine nw_alloc ?_ _ | refine nw_drew ?_ | refine nw_drewN ?_ _ | refine nw_set ?_ (by first | (simp; done) | (simp; omega) | omega) _))⟩
set_option maxRecDepth 100000 in
set_option maxHeartbeats 4000000 in
theorem staying_all (w : World) (v : Value) (l : List Pt) (h : PsAt w v l) (hl2 : l.length ≤ 2048) (kb ko kc : Nat) (hkb : Lt kb w.heap.size) (hkc : w.cell? ⟨kb, ko, none⟩ = some (.int .i64 1)) :
    Calls Try.prog 23 #[v, .slice (some ⟨kb, ko, none⟩) 1 kc] w (StayOut w l) := by
  obtain ⟨j0, hj, hy0, hy1, hy2⟩ := info_parts info_put
  have HJ := Lib.hid hj
  obtain ⟨p, cap, rfl, hl, hcap, hat⟩ := h.at
  have H := Lib.hid hat
  clear h hat hj
  go_enter Try.func23, Try.ntmps23
  go_wp2
  go_loopg [5, 10] (l.length + 1) (fun g s5 s10 wr => ∃ (k : Nat) (u : Value), k ≤ l.length ∧ g + k = l.length + 1 ∧ s5 = u ∧ s10 = .int .i64 k ∧ Hid (OwnP w.heap.size wr u (l.take k)) ∧ Hid (Below w.heap.size w wr))
  case atStart => exact ⟨0, _, Nat.zero_le _, rfl, rfl, rfl, Lib.hid (OwnP.nil _ _), Lib.hid (Below.refl _ _)⟩
  case round =>
    obtain ⟨k, u, hk, hg, rfl, rfl, HO, HB⟩ := hrel
    obtain rfl : gk = l.length + 1 - k := by omega
    clear hg
    have hlen : (l.take k).length = k := by rw [List.length_take]; omega
    obtain ⟨q0, c0, e0⟩ := HO.out.slice
    rw [hlen] at e0
    subst e0
    have HR := Lib.hid (HO.out.row hlen)
    have hzz : w.heap.size ≤ wr.heap.size := HB.out.size
    clear hlen
    by_cases hlt : k < l.length
    · have hkl : (k : Int) < (l.length : Int) := by omega
      obtain ⟨b, off, x, rfl, hb, ha0, ha1, -, hxk, hsz⟩ := H.out k hlt
      obtain ⟨xi, xs⟩ := x
      dsimp only at ha0 ha1 hsz
      have hc0 : wr.cell? ⟨b, off + k * 2, none⟩ = some (.int .i64 xi) := (HB.out.cell (p := ⟨b, off + k * 2, none⟩) hb.out).trans ha0
      have hc1 : wr.cell? ⟨b, off + k * 2 + 1, none⟩ = some (.string xs) := (HB.out.cell (p := ⟨b, off + k * 2 + 1, none⟩) hb.out).trans ha1
      have hb1 : Lt b wr.heap.size := Nat.lt_of_lt_of_le hb.out hzz
      have hk1 : wr.cell? ⟨kb, ko, none⟩ = some (.int .i64 1) := (HB.out.cell (p := ⟨kb, ko, none⟩) hkb.out).trans hkc
      have hkb1 : Lt kb wr.heap.size := Nat.lt_of_lt_of_le hkb.out hzz
      have HTK := Lib.hid (take_snoc hxk)
      clear ha0 ha1 hb hxk
      go_wp2_with (at_builtin; refine wpList_append_own _ rfl _ _ 23 rfl w.heap.size 40 j0 (.agg #[.int .i64 0, .string { data := #[] }]) 2 24 Try.underlying23 HJ.out hy0 hy1 hy2 rfl (by decide) _ k (ptCells (l.take k)) rfl (own_below HR.out (by (repeat (first | exact Below.refl _ _ | assumption | refine nw_more ?_ _ _ | refine nw_alloc ?_ _ | refine nw_drew ?_ | refine nw_drewN ?_ _ | refine nw_set ?_ (by first | (simp; done) | (simp; omega) | omega) _)))) ⟨_, 0, none⟩ 1 1 [.int .i64 xi, .string xs] rfl rfl ?c1 ?c2 ?c3 ?c4 ?c5 ?_)
      case c1 => exact news2 (by simp [go_sem]) (by simp [go_sem])
      case c2 => exact news2_one rfl rfl
      case c3 => unfold maxLen; omega
      case c4 => omega
      case c5 => simp; omega
      intro V w3 hown' hgrow hnil
      clear hnil
      have hown2 : OwnP w.heap.size w3 V (l.take (k + 1)) := by
        unfold OwnP
        rw [HTK.out, List.length_append, ptCells_append, List.length_take]
        rw [show min k l.length = k by omega]
        exact hown'
      obtain ⟨X, HX⟩ : ∃ X, Hid (Below wr.heap.size wr X ∧ X.grownBy w3 (Value.slice q0 k c0).ownBlock) := ⟨_, Lib.hid ⟨by (repeat (first | exact Below.refl _ _ | assumption | refine nw_more ?_ _ _ | refine nw_alloc ?_ _ | refine nw_drew ?_ | refine nw_drewN ?_ _ | refine nw_set ?_ (by first | (simp; done) | (simp; omega) | omega) _)), hgrow⟩⟩
      have hbw : Below w.heap.size w w3 := below_append (w := w) (HB.out.trans (HX.out.1.mono hzz)) (own_below HR.out HX.out.1) HX.out.2
      have HO2 := Lib.hid hown2
      have HB2 := Lib.hid hbw
      clear hown' hgrow hown2 hbw HO HB hc0 hc1 hk1 HX
      go_wp2
      go_roundg (l.length + 1 - k - 1)
      case measure => omega
      case rel => exact ⟨k + 1, V, by omega, by omega, rfl, by go_num, HO2, HB2⟩
    · obtain rfl : k = l.length := by omega
      have hkl : ¬ (l.length : Int) < (l.length : Int) := by omega
      have hfin := HO.out
      rw [List.take_length] at hfin
      have HF := Lib.hid hfin
      clear HO hfin H HR
      go_wp2
      go_ret
      exact ⟨_, rfl, HF.out, HB.out⟩
end Go.Proofs.Ytgaalahlkllkaaa
