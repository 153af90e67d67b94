/- Contracts: whether a tape may be, for one that may; equality of tapes that are the same. No condition. -/
import Derived.Test.YtgaalahlkllkaaaTpA
namespace Go.Proofs.Ytgaalahlkllkaaa
open Go.RowKit

set_option maxHeartbeats 2000000 in
theorem idxS_none (w : World) (v : Value) (S : List ByteArray) (h : SsAt w v S) (ht : ∀ s ∈ S, s.size = 32) :
    Calls Try.prog 38 #[v, .func (.func 32) #[] #[]] w fun e w' => e = .returned (.int .i64 (-1)) ∧ Below w.heap.size w w' := by
  obtain ⟨p, cap, rfl, hl, hcap, hat⟩ := h.at
  have H := Lib.hid hat
  have HT := Lib.hid ht
  clear h hat ht
  go_enter Try.func38, Try.ntmps38
  go_wp2
  go_loopg [8] (S.length + 1) (fun g i wr => (∃ n es, wr = more w n es) ∧ ∃ k : Nat, k ≤ S.length ∧ g + k = S.length + 1 ∧ i = .int .i64 k)
  case atStart => exact ⟨below_more (Below.refl _ _), 0, Nat.zero_le _, rfl, rfl⟩
  case round =>
    obtain ⟨⟨n, es, rfl⟩, k, hk, hg, rfl⟩ := hrel
    obtain rfl : gk = S.length + 1 - k := by omega
    clear hg
    by_cases hlt : k < S.length
    · have hkl : (k : Int) < (S.length : Int) := by omega
      obtain ⟨b, off, s, rfl, hb, hc0, -, hxk, hsz⟩ := H.out k hlt
      have HV : Hid ((!decide (s.size = 32)) = false) := Lib.hid (by rw [HT.out s (List.mem_of_getElem? hxk)]; rfl)
      clear hxk H
      go_wp2_with (first | (go_at_call 32; refine (isNoText_any _ _ hsz).mono ?_; rw [HV.out]; rintro e w' ⟨rfl, rfl⟩))
      go_roundg (S.length + 1 - k - 1)
      case measure => omega
      case rel => exact ⟨below_more (by (repeat (first | exact Below.refl _ _ | assumption | refine nw_more ?_ _ _ | refine nw_alloc ?_ _ | refine nw_drew ?_ | refine nw_drewN ?_ _ | refine nw_set ?_ (by first | (simp; done) | (simp; omega) | omega) _))), k + 1, by omega, by omega, by go_num⟩
    · have hkl : ¬ (k : Int) < (S.length : Int) := by omega
      clear H
      go_wp2
      go_ret
      exact ⟨rfl, by (repeat (first | exact Below.refl _ _ | assumption | refine nw_more ?_ _ _ | refine nw_alloc ?_ _ | refine nw_drew ?_ | refine nw_drewN ?_ _ | refine nw_set ?_ (by first | (simp; done) | (simp; omega) | omega) _))⟩
set_option maxHeartbeats 1000000 in
theorem hasS_none (w : World) (v : Value) (S : List ByteArray) (h : SsAt w v S) (ht : ∀ s ∈ S, s.size = 32) :
    Calls Try.prog 31 #[v, .func (.func 32) #[] #[]] w fun e w' => e = .returned (.bool false) ∧ Below w.heap.size w w' := by
  go_enter Try.func31, Try.ntmps31
  go_wp2_with fail
  refine (idxS_none _ v S h ht).mono ?_
  (rintro e w' ⟨rfl, hb⟩; obtain ⟨n, es, rfl⟩ := below_more hb; clear hb)
  go_wp2
  go_ret
  exact ⟨rfl, by (repeat (first | exact Below.refl _ _ | assumption | refine nw_more ?_ _ _ | refine nw_alloc ?_ _ | refine nw_drew ?_ | refine nw_drewN ?_ _ | refine nw_set ?_ (by first | (simp; done) | (simp; omega) | omega) _))⟩
set_option maxHeartbeats 1000000 in
/-- A put that may be is no fault: the tape is at the address that the function holds. -/
theorem putFault_none (w : World) (p q : Option Addr) (N c m d : Nat) (i : Int) (s : ByteArray) (bb : Nat) (h0 : 0 ≤ i) (h1 : i < (N : Int)) (h2 : s.size = 32) (hbb : Lt bb w.heap.size) (hc0 : w.cell? ⟨bb, 0, none⟩ = some (.slice p N c)) (hc1 : w.cell? ⟨bb, 1, none⟩ = some (.slice q m d)) :
    Calls Try.prog 34 #[.agg #[.int .i64 i, .string s], .pointer (some ⟨bb, 0, none⟩)] w fun e w' => e = .returned (.bool false) ∧ Below w.heap.size w w' := by
  have HF := Lib.hid (faultE_ok h0 h1 h2)
  have hs : s.size ≤ 140737488355328 := by omega
  clear h0 h1
  go_enter Try.func34, Try.ntmps34
  go_wp2_with (first | (go_at_call 35; refine (fault_any _ _ _ _ _ _ _ _ _ hs).mono ?_; rw [HF.out]; (rintro e w' ⟨rfl, hb⟩; obtain ⟨n, es, rfl⟩ := below_more hb; clear hb)))
  go_ret
  exact ⟨rfl, by (repeat (first | exact Below.refl _ _ | assumption | refine nw_more ?_ _ _ | refine nw_alloc ?_ _ | refine nw_drew ?_ | refine nw_drewN ?_ _ | refine nw_set ?_ (by first | (simp; done) | (simp; omega) | omega) _))⟩
set_option maxHeartbeats 2000000 in
theorem idxP_none (w : World) (v : Value) (l : List Pt) (h : PsAt w v l) (p q : Option Addr) (N c m d : Nat) (bb : Nat) (ht : ∀ x ∈ l, 0 ≤ x.i ∧ x.i < (N : Int) ∧ x.s.size = 32) (hbb : Lt bb w.heap.size) (hc0 : w.cell? ⟨bb, 0, none⟩ = some (.slice p N c)) (hc1 : w.cell? ⟨bb, 1, none⟩ = some (.slice q m d)) :
    Calls Try.prog 39 #[v, .func (.func 34) #[] #[.pointer (some ⟨bb, 0, none⟩)]] w fun e w' => e = .returned (.int .i64 (-1)) ∧ Below w.heap.size w w' := by
  obtain ⟨lp, cap, rfl, hl, hcap, hat⟩ := h.at
  have H := Lib.hid hat
  have HT := Lib.hid ht
  clear h hat ht
  go_enter Try.func39, Try.ntmps39
  go_wp2
  go_loopg [8] (l.length + 1) (fun g i wr => (∃ n es, wr = more w n es) ∧ ∃ k : Nat, k ≤ l.length ∧ g + k = l.length + 1 ∧ i = .int .i64 k)
  case atStart => exact ⟨below_more (Below.refl _ _), 0, Nat.zero_le _, rfl, rfl⟩
  case round =>
    obtain ⟨⟨n, es, rfl⟩, k, hk, hg, rfl⟩ := hrel
    obtain rfl : gk = l.length + 1 - k := by omega
    clear hg
    by_cases hlt : k < l.length
    · have hkl : (k : Int) < (l.length : Int) := by omega
      obtain ⟨b, off, x, rfl, hb, ha0, ha1, -, hxk, hsz⟩ := H.out k hlt
      obtain ⟨x0, x1, x2⟩ := HT.out x (List.mem_of_getElem? hxk)
      obtain ⟨xi, xs⟩ := x
      dsimp only at ha0 ha1 x0 x1 x2
      have HX : Hid (0 ≤ xi ∧ xi < (N : Int) ∧ xs.size = 32) := Lib.hid ⟨x0, x1, x2⟩
      clear hxk H x0 x1 x2 HT
      go_wp2_with (first | (go_at_call 34; refine (putFault_none _ p q N c m d xi xs bb HX.out.1 HX.out.2.1 HX.out.2.2 (by simp [go_sem, hbb]) (by simp [go_sem, hbb, hc0]) (by simp [go_sem, hbb, hc1])).mono ?_; (rintro e w' ⟨rfl, hb⟩; obtain ⟨n, es, rfl⟩ := below_more hb; clear hb)))
      go_roundg (l.length + 1 - k - 1)
      case measure => omega
      case rel => exact ⟨below_more (by (repeat (first | exact Below.refl _ _ | assumption | refine nw_more ?_ _ _ | refine nw_alloc ?_ _ | refine nw_drew ?_ | refine nw_drewN ?_ _ | refine nw_set ?_ (by first | (simp; done) | (simp; omega) | omega) _))), k + 1, by omega, by omega, by go_num⟩
    · have hkl : ¬ (k : Int) < (l.length : Int) := by omega
      clear H
      go_wp2
      go_ret
      exact ⟨rfl, by (repeat (first | exact Below.refl _ _ | assumption | refine nw_more ?_ _ _ | refine nw_alloc ?_ _ | refine nw_drew ?_ | refine nw_drewN ?_ _ | refine nw_set ?_ (by first | (simp; done) | (simp; omega) | omega) _))⟩
set_option maxHeartbeats 1000000 in
theorem hasP_none (w : World) (v : Value) (l : List Pt) (h : PsAt w v l) (p q : Option Addr) (N c m d : Nat) (bb : Nat) (ht : ∀ x ∈ l, 0 ≤ x.i ∧ x.i < (N : Int) ∧ x.s.size = 32) (hbb : Lt bb w.heap.size) (hc0 : w.cell? ⟨bb, 0, none⟩ = some (.slice p N c)) (hc1 : w.cell? ⟨bb, 1, none⟩ = some (.slice q m d)) :
    Calls Try.prog 33 #[v, .func (.func 34) #[] #[.pointer (some ⟨bb, 0, none⟩)]] w fun e w' => e = .returned (.bool false) ∧ Below w.heap.size w w' := by
  go_enter Try.func33, Try.ntmps33
  go_wp2_with fail
  refine (idxP_none _ v l h p q N c m d bb ht hbb hc0 hc1).mono ?_
  (rintro e w' ⟨rfl, hb⟩; obtain ⟨n, es, rfl⟩ := below_more hb; clear hb)
  go_wp2
  go_ret
  exact ⟨rfl, by (repeat (first | exact Below.refl _ _ | assumption | refine nw_more ?_ _ _ | refine nw_alloc ?_ _ | refine nw_drew ?_ | refine nw_drewN ?_ _ | refine nw_set ?_ (by first | (simp; done) | (simp; omega) | omega) _))⟩
set_option maxHeartbeats 4000000 in
/-- A tape that may be may be. -/
theorem mayBe_ok (w : World) (u v : Value) (S : List ByteArray) (l : List Pt) (hok : TpOk S l) (hs : SsAt w u S) (hp : PsAt w v l) :
    Calls Try.prog 17 #[.agg #[u, v]] w fun e w' => e = .returned (.bool true) ∧ Below w.heap.size w w' := by
  obtain ⟨p, c, rfl, -⟩ := hs.slice
  obtain ⟨q, d, rfl, -⟩ := hp.slice
  have HS := Lib.hid hs
  have HP := Lib.hid hp
  have HT := Lib.hid hok.txt
  have HU := Lib.hid hok.put
  have HZ : Hid ((decide (1 ≤ (S.length : Int)) && decide ((S.length : Int) ≤ 512)) = true) := Lib.hid (by have := hok.low; have := hok.top; simp; omega)
  have k1 : ¬ (2048 : Int) < (l.length : Int) := by have := hok.many; omega
  have hll : (l.length : Int) ≤ 2048 := by have := hok.many; omega
  clear hs hp hok
  go_enter Try.func17, Try.ntmps17
  go_wp2_with fail
  (refine wp_region_quiet_more (by kernel_rfl) (by kernel_rfl) ?_; (repeat (first | go_big_quiet_skip | quiet_step ((first | (go_at_call 29; exact Calls.more_same_bool true HZ.out (isSize_any _ _)) | (go_at_call 30; exact Calls.more_same_int 2048 rfl (mostWaits_any _)))))); refine wpQuiet_nil ?_; intro _ hw'; obtain ⟨⟨nq, esq⟩, hw''⟩ := hw'; subst hw''; dsimp only)
  go_wp2_with (first | (go_at_call 31; refine (hasS_none _ _ S (HS.out.below (by (repeat (first | exact Below.refl _ _ | assumption | refine nw_more ?_ _ _ | refine nw_alloc ?_ _ | refine nw_drew ?_ | refine nw_drewN ?_ _ | refine nw_set ?_ (by first | (simp; done) | (simp; omega) | omega) _)))) HT.out).mono ?_; (rintro e w' ⟨rfl, hb⟩; obtain ⟨n, es, rfl⟩ := below_more hb; clear hb)) | (go_at_call 33; refine (hasP_none _ _ l (HP.out.below (by (repeat (first | exact Below.refl _ _ | assumption | refine nw_more ?_ _ _ | refine nw_alloc ?_ _ | refine nw_drew ?_ | refine nw_drewN ?_ _ | refine nw_set ?_ (by first | (simp; done) | (simp; omega) | omega) _)))) p q S.length c l.length d w.heap.size HU.out (by simp [go_sem]) (by simp [go_sem]) (by simp [go_sem])).mono ?_; (rintro e w' ⟨rfl, hb⟩; obtain ⟨n, es, rfl⟩ := below_more hb; clear hb)))
  go_ret
  exact ⟨rfl, by (repeat (first | exact Below.refl _ _ | assumption | refine nw_more ?_ _ _ | refine nw_alloc ?_ _ | refine nw_drew ?_ | refine nw_drewN ?_ _ | refine nw_set ?_ (by first | (simp; done) | (simp; omega) | omega) _))⟩
end Go.Proofs.Ytgaalahlkllkaaa
