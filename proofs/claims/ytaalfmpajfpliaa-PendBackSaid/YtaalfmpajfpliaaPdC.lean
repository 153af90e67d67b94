/- Contracts: lists cloned, the first ones of what is pending. No condition. -/
import Derived.Test.YtaalfmpajfpliaaPdB
import Derived.Test.YtaalfmpajfpliaaTBlc
import Derived.Great.BuildSlice
import Derived.Deep.RegionHeld3
import Derived.Deep.RegionWith
namespace Go.Proofs.Ytaalfmpajfpliaa
open Go.RowKit

theorem info_write : (Try.prog.info? 39).map (fun i => (i.zero, i.size, i.bytes)) = some (some (.agg #[.int .i64 0, .string { data := #[] }, .string { data := #[] }, .bool false]), 4, 48) := by kernel_rfl
theorem info_int : (Try.prog.info? 3).map (fun i => (i.zero, i.size, i.bytes)) = some (some (.int .i64 0), 1, 8) := by kernel_rfl
theorem info_parts {t : TypeId} {z : Value} {s b : Nat} (h : (Try.prog.info? t).map (fun i => (i.zero, i.size, i.bytes)) = some (some z, s, b)) : ∃ i, Try.prog.info? t = some i ∧ i.zero = some z ∧ i.size = s ∧ i.bytes = b := by
  cases e : Try.prog.info? t with
  | none => rw [e] at h; cases h
  | some i =>
    rw [e] at h
    simp only [Option.map_some, Option.some.injEq, Prod.mk.injEq] at h
    exact ⟨i, rfl, h.1, h.2.1, h.2.2⟩

set_option maxHeartbeats 1000000 in
theorem cloneW_any (w : World) (v : Value) (l : List Wr) (hl : l.length ≤ 1000000) (h : WsAt w v l) :
    Calls Try.prog 30 #[v] w fun e w' => ∃ u, e = .returned u ∧ OwnW w.heap.size w' u l ∧ Below w.heap.size w w' := by
  obtain ⟨i0, hi, hz0, hz1, hz2⟩ := info_parts info_write
  have HI := Lib.hid hi
  have H := Lib.hid h
  have qq : ∀ (w : World) (a : Option Addr) (n c n' c' : Nat), (binOp .eql 22 (.slice a n c) (.slice none n' c')).run Try.prog w = .ok (.bool a.isNone) w := fun w a n c n' c' => Lib.run_eql_slice_nil w _ _ a n c n' c' Try.underlying22
  obtain ⟨p, cap, rfl, hcap, ht⟩ := h.2.2
  cases p with
  | none =>
    have h0 : l = [] := by
      cases l with
      | nil => rfl
      | cons x r => obtain ⟨b, off, e, -⟩ := ht 0 (by simp); cases e
    subst h0
    clear h hi ht
    go_enter Try.func30, Try.ntmps30
    go_wp2
    go_ret
    exact ⟨_, rfl, OwnW.nil _ _, by (repeat (first | exact Below.refl _ _ | assumption | refine nw_more ?_ _ _ | refine nw_alloc ?_ _ | refine nw_drew ?_ | refine nw_drewN ?_ _ | refine nw_set ?_ (by first | (simp; done) | (simp; omega) | omega) _))⟩
  | some a =>
    clear h hi ht
    go_enter Try.func30, Try.ntmps30
    go_wp2_with (at_builtin; refine wpList_append_own _ rfl _ _ 22 rfl w.heap.size 39 i0 (.agg #[.int .i64 0, .string { data := #[] }, .string { data := #[] }, .bool false]) 4 48 Try.underlying22 HI.out hz0 hz1 hz2 rfl (by decide) _ _ _ rfl (World.ownsRow_made w #[] 0 (Nat.le_refl _) (Nat.zero_le _) rfl) a l.length cap (wCells l) rfl ?qc1 ?qc2 ?qc3 ?qc4 ?qc5 ?qc6 ?_)
    case qc1 => exact wCells_length l
    case qc2 => exact fun j u hu => wCells_mem (H.out.below (by (repeat (first | exact Below.refl _ _ | assumption | refine nw_more ?_ _ _ | refine nw_alloc ?_ _ | refine nw_drew ?_ | refine nw_drewN ?_ _ | refine nw_set ?_ (by first | (simp; done) | (simp; omega) | omega) _)))) j u hu
    case qc3 => exact wCells_one l
    case qc4 => unfold maxLen; omega
    case qc5 => omega
    case qc6 => simp
    intro v' w1 hown hgrow hnil
    go_wp2
    go_ret
    refine ⟨v', rfl, ?_, ?_⟩
    · unfold OwnW
      simpa using hown
    · exact ((Below.refl _ w).alloc (Nat.le_refl _) _).grown hgrow (by simp) (by intro k hk; simp [Value.ownBlock] at hk; omega)

set_option maxHeartbeats 1000000 in
theorem cloneN_any (w : World) (v : Value) (l : List Int) (h : IntsAt w v l) :
    Calls Try.prog 31 #[v] w fun e w' => ∃ u, e = .returned u ∧ OwnN w.heap.size w' u l ∧ Below w.heap.size w w' := by
  obtain ⟨i0, hi, hz0, hz1, hz2⟩ := info_parts info_int
  have HI := Lib.hid hi
  have H := Lib.hid h
  have hl := h.1
  have qq : ∀ (w : World) (a : Option Addr) (n c n' c' : Nat), (binOp .eql 23 (.slice a n c) (.slice none n' c')).run Try.prog w = .ok (.bool a.isNone) w := fun w a n c n' c' => Lib.run_eql_slice_nil w _ _ a n c n' c' Try.underlying23
  obtain ⟨p, cap, rfl, hcap, ht⟩ := h.2
  cases p with
  | none =>
    have h0 : l = [] := by
      cases l with
      | nil => rfl
      | cons x r => obtain ⟨b, off, e, -⟩ := ht 0 (by simp); cases e
    subst h0
    clear h hi ht
    go_enter Try.func31, Try.ntmps31
    go_wp2
    go_ret
    exact ⟨_, rfl, OwnN.nil _ _, by (repeat (first | exact Below.refl _ _ | assumption | refine nw_more ?_ _ _ | refine nw_alloc ?_ _ | refine nw_drew ?_ | refine nw_drewN ?_ _ | refine nw_set ?_ (by first | (simp; done) | (simp; omega) | omega) _))⟩
  | some a =>
    clear h hi ht
    go_enter Try.func31, Try.ntmps31
    go_wp2_with (at_builtin; refine wpList_append_own _ rfl _ _ 23 rfl w.heap.size 3 i0 (.int .i64 0) 1 8 Try.underlying23 HI.out hz0 hz1 hz2 rfl (by decide) _ _ _ rfl (World.ownsRow_made w #[] 0 (Nat.le_refl _) (Nat.zero_le _) rfl) a l.length cap (l.map (Value.int .i64)) rfl ?qc1 ?qc2 ?qc3 ?qc4 ?qc5 ?qc6 ?_)
    case qc1 => simp
    case qc2 => exact fun j u hu => ints_mem (H.out.below (by (repeat (first | exact Below.refl _ _ | assumption | refine nw_more ?_ _ _ | refine nw_alloc ?_ _ | refine nw_drew ?_ | refine nw_drewN ?_ _ | refine nw_set ?_ (by first | (simp; done) | (simp; omega) | omega) _)))) j u hu
    case qc3 => exact newsI_one l
    case qc4 => unfold maxLen; omega
    case qc5 => omega
    case qc6 => simp
    intro v' w1 hown hgrow hnil
    go_wp2
    go_ret
    refine ⟨v', rfl, ?_, ?_⟩
    · unfold OwnN
      simpa using hown
    · exact ((Below.refl _ w).alloc (Nat.le_refl _) _).grown hgrow (by simp) (by intro k hk; simp [Value.ownBlock] at hk; omega)

/-- What was made behind a world stays the call's own, whatever the blocks ahead of it hold. -/
theorem own_swap {X Y : World} {n m B : Nat} {es : Array Obj} {e : TypeId} {s : Nat} {v : Value} {k : Nat} {xs : List Value} (h : (more X n es).ownsRow X.heap.size e s v k xs) (hs : Y.heap.size = X.heap.size) (hB : B ≤ X.heap.size) : (more Y m es).ownsRow B e s v k xs := by
  refine ⟨h.1, ?_⟩
  rcases h.2 with h2 | ⟨g, cap, cur, hv, hb, hg, r⟩
  · exact .inl h2
  · refine .inr ⟨g, cap, cur, hv, by omega, ?_, r⟩
    simp only [more] at hg ⊢
    rw [Array.getElem?_append_right (by omega)] at hg ⊢
    rw [hs]; exact hg

set_option maxHeartbeats 4000000 in
/-- The first a writes, the first b marks, in new memory. -/
theorem front_any (w : World) (u v : Value) (l : List Wr) (ms : List Int) (a b : Nat) (ha : a ≤ l.length) (hb : b ≤ ms.length) (hl : l.length ≤ 1000000) (hw : WsAt w u l) (hm : IntsAt w v ms) :
    Calls Try.prog 22 #[.agg #[u, v], .int .i64 a, .int .i64 b] w fun e w' => ∃ u' v', e = .returned (.agg #[u', v']) ∧ OwnW w.heap.size w' u' (l.take a) ∧ OwnN w.heap.size w' v' (ms.take b) ∧ Below w.heap.size w w' := by
  obtain ⟨p, cap, rfl, hcap⟩ := hw.slice
  obtain ⟨q, qc, rfl, hqc⟩ := hm.cap
  have HW := Lib.hid (hw.take a ha)
  have HM := Lib.hid (hm.take b hb)
  have hl2 : (l.take a).length ≤ 1000000 := by rw [List.length_take]; omega
  have hmn := hm.1
  have hwn := hw.1
  have k1 : (a : Int) ≤ (cap : Int) := by omega
  have k2 : (b : Int) ≤ (qc : Int) := by omega
  have k3 : (0 : Int) ≤ (a : Int) := by omega
  have k4 : (0 : Int) ≤ (b : Int) := by omega
  clear hw hm
  go_enter Try.func22, Try.ntmps22
  go_wp2_with fail
  go_region_held3 (fun w9 => w9.cell? ⟨w.heap.size, 0, none⟩ = some (.slice p l.length cap) ∧ w9.cell? ⟨w.heap.size, 1, none⟩ = some (.slice q ms.length qc)) (simp [go_sem, *]) (first | (go_at_call 30; refine (cloneW_any _ _ (l.take a) hl2 (HW.out.below (by (repeat (first | exact Below.refl _ _ | assumption | refine nw_more ?_ _ _ | refine nw_alloc ?_ _ | refine nw_drew ?_ | refine nw_drewN ?_ _ | refine nw_set ?_ (by first | (simp; done) | (simp; omega) | omega) _))))).mono ?_; rintro e w' ⟨u1, rfl, ho1, hb1⟩; obtain ⟨p1, c1, rfl⟩ := OwnW.slice ho1; obtain ⟨n1, es1, rfl⟩ := below_more hb1; clear hb1) | (go_at_call 31; refine (cloneN_any _ _ (ms.take b) (HM.out.below (by (repeat (first | exact Below.refl _ _ | assumption | refine nw_more ?_ _ _ | refine nw_alloc ?_ _ | refine nw_drew ?_ | refine nw_drewN ?_ _ | refine nw_set ?_ (by first | (simp; done) | (simp; omega) | omega) _))))).mono ?_; rintro e w' ⟨u2, rfl, ho2, hb2⟩; obtain ⟨p2, c2, rfl⟩ := OwnN.slice ho2; obtain ⟨n2, es2, rfl⟩ := below_more hb2; clear hb2))
  all_goals
    rw [show (l.take a).length = a by rw [List.length_take]; omega] at ho1
    rw [show (ms.take b).length = b by rw [List.length_take]; omega] at ho2
    go_wp2
    refine bodyPost_ret (v := .agg #[.slice p1 a c1, .slice p2 b c2]) (by simp [results, Try.results22, go_sem]) rfl ⟨_, _, rfl, ?_, ?_, ?_⟩
    · exact own_more (own_swap ho1 (by simp) (by simp; omega)) _ _
    · exact own_swap ho2 (by simp) (by simp; omega)
    · (repeat (first | exact Below.refl _ _ | assumption | refine nw_more ?_ _ _ | refine nw_alloc ?_ _ | refine nw_drew ?_ | refine nw_drewN ?_ _ | refine nw_set ?_ (by first | (simp; done) | (simp; omega) | omega) _))
theorem front_of (w : World) (u v : Value) (l : List Wr) (ms : List Int) (a b : Nat) (A C : Int) (hA : A = a) (hC : C = b) (ha : a ≤ l.length) (hb : b ≤ ms.length) (hl : l.length ≤ 1000000) (hw : WsAt w u l) (hm : IntsAt w v ms) :
    Calls Try.prog 22 #[.agg #[u, v], .int .i64 A, .int .i64 C] w fun e w' => ∃ u' v', e = .returned (.agg #[u', v']) ∧ OwnW w.heap.size w' u' (l.take a) ∧ OwnN w.heap.size w' v' (ms.take b) ∧ Below w.heap.size w w' := by
  subst hA hC
  exact front_any w u v l ms a b ha hb hl hw hm
end Go.Proofs.Ytaalfmpajfpliaa
