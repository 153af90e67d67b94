/- Contracts of package page: Get, Add. -/
import Derived.Test.YtcbablighgooeaaPageC
namespace Go.Proofs.Ytcbablighgooeaa
open Go.RowKit

def openS (S : List ByteArray) (F : List Int) : List ByteArray := if F = [] then S ++ [E0] else S
def slotN (S : List ByteArray) : List Int → Nat
  | [] => S.length
  | n :: _ => n.toNat
def addS (S : List ByteArray) (F : List Int) (s : ByteArray) : List ByteArray := (openS S F).set (slotN S F) s
theorem open_nil (S : List ByteArray) : openS S [] = S ++ [E0] := rfl
theorem open_cons (S : List ByteArray) (n : Int) (F : List Int) : openS S (n :: F) = S := rfl
theorem slot_lt {S : List ByteArray} {F : List Int} (h : PgOk S F) : slotN S F < (openS S F).length ∧ (openS S F).length ≤ 17 := by
  have := h.len.1
  cases F with
  | nil => rw [open_nil]; simp [slotN]; omega
  | cons n F =>
    have h0 := h.low n (List.mem_cons_self ..)
    rw [open_cons]; simp only [slotN]; omega
theorem open_small {S : List ByteArray} {F : List Int} (h : PgOk S F) : ∀ s ∈ openS S F, s.size ≤ 140737488355328 := by
  have hs := h.small
  intro s hm
  cases F with
  | nil =>
    rw [open_nil] at hm
    rcases List.mem_append.1 hm with hm | hm
    · have := hs s hm; omega
    · simp at hm; subst hm; show 0 ≤ _; omega
  | cons n F => rw [open_cons] at hm; have := hs s hm; omega
theorem add_ok {S : List ByteArray} {F : List Int} {s : ByteArray} (h : PgOk S F) (hf : fitsB (addS S F s) = true) :
    PgOk (addS S F s) F.tail ∧ (∀ m, recB (addS S F s) F.tail m = (recB S F m || decide (m = slotN S F))) ∧ recB S F (slotN S F) = false ∧ slotN S F < 16 ∧ (∀ m, (addS S F s).getD m E0 = if m = slotN S F then s else S.getD m E0) := by
  have hl := slot_lt h
  have hlen : (addS S F s).length ≤ 16 := by have : (addS S F s).length ≤ 16 ∧ sizeP (addS S F s) ≤ 200 := by simpa [fitsB] using hf
                                             exact this.1
  have hk : slotN S F < 16 := by unfold addS at hlen; rw [List.length_set] at hlen; omega
  have hget : ∀ m, (addS S F s).getD m E0 = if m = slotN S F then s else (openS S F).getD m E0 := fun m => by
    unfold addS
    rw [getD_set _ _ _ _ _ hl.1]
    by_cases e : slotN S F = m
    · rw [if_pos e, if_pos e.symm]
    · rw [if_neg e, if_neg (fun e' => e e'.symm)]
  cases F with
  | nil =>
    have e : addS S [] s = S ++ [s] := by
      unfold addS; rw [open_nil, slotN, List.set_append_right _ _ (Nat.le_refl _), Nat.sub_self]; rfl
    rw [e] at hf hget ⊢
    obtain ⟨a, b, c⟩ := add_new h hf
    refine ⟨a, b, c, hk, fun m => ?_⟩
    rw [hget m]
    split
    · rfl
    · rename_i hm
      rw [open_nil]
      simp only [slotN] at hm
      by_cases h1 : m < S.length
      · simp [List.getD, List.getElem?_append_left h1]
      · rw [List.getD_eq_getElem?_getD, List.getD_eq_getElem?_getD, List.getElem?_eq_none (by simp; omega), List.getElem?_eq_none (by omega)]
  | cons n F =>
    have h0 := h.low n (List.mem_cons_self ..)
    have e : addS S (n :: F) s = S.set n.toNat s := rfl
    have en : ((slotN S (n :: F) : Nat) : Int) = n := by simp only [slotN]; omega
    rw [e] at hf hget ⊢
    obtain ⟨a, b, c⟩ := add_free h hf
    rw [en]
    exact ⟨a, b, c, hk, fun m => by rw [hget m, open_cons]⟩

theorem opened_any (B : Nat) (w : World) (v u : Value) (S : List ByteArray) (F : List Int) (h : PageIn B w v u S F) (ho : PgOk S F) :
    Calls Try.prog 20 #[.agg #[v, u]] w fun e w' => ∃ u1 u2, e = .returned (.tuple #[.agg #[u1, u2], .int .i64 (slotN S F)]) ∧ OwnS w.heap.size w' u1 (openS S F) ∧ IntsIn w.heap.size w' u2 F.tail ∧ ApartI u1 u2 F.tail ∧ Below w.heap.size w w' := by
  cases F with
  | nil => exact (opened_new B w v u S h ho.len.1).mono fun e w' ⟨u1, u2, a, b, c, d⟩ => ⟨u1, u2, a, b, c, .inl rfl, d⟩
  | cons n F =>
    have h0 := ho.low n (List.mem_cons_self ..)
    have en : ((slotN S (n :: F) : Nat) : Int) = n := by simp only [slotN]; omega
    rw [en]
    exact opened_free B w v u S n F h h.1.2.1

set_option maxHeartbeats 1000000 in
theorem Get_any (B : Nat) (w : World) (v u : Value) (S : List ByteArray) (F : List Int) (n : Nat) (h : PageIn B w v u S F) (ho : PgOk S F) (hr : recB S F n = true) :
    Calls Try.prog 10 #[.agg #[v, u], .int .i64 n] w fun e w' => e = .returned (.tuple #[.string (S.getD n E0), .int .i64 0]) ∧ Below w.heap.size w w' := by
  have HP := Lib.hid h
  have HO := Lib.hid ho
  have HR := Lib.hid hr
  obtain ⟨p, cap, rfl, hl, ht⟩ := h.1.at
  have hn : n < S.length := by have := (rec_iff.1 hr).2.1; omega
  obtain ⟨b, off, s, rfl, hb, hc, -, hs, -⟩ := ht n hn
  have HE : Hid (S.getD n E0 = s) := Lib.hid (by simp [List.getD, hs])
  clear h ho hr ht hs
  have k1 : (n : Int) < S.length := by omega
  go_enter Try.func10, Try.ntmps10
  go_wp2_with (first | (go_at_call 15; refine (pageMayBe_any B _ _ _ S F (HP.out.below (by (repeat (first | exact Below.refl _ _ | assumption | refine nw_more ?_ _ _ | refine nw_alloc ?_ _ | refine nw_drew ?_ | refine nw_drewN ?_ _ | refine nw_set ?_ (by first | (simp; done) | (simp; omega) | omega) _)))) HO.out).mono ?_; (rintro e w' ⟨rfl, hb⟩; obtain ⟨n, es, rfl⟩ := below_more hb; clear hb)) | (go_at_call 16; refine (isRecord_any B _ _ _ S F _ (HP.out.below (by (repeat (first | exact Below.refl _ _ | assumption | refine nw_more ?_ _ _ | refine nw_alloc ?_ _ | refine nw_drew ?_ | refine nw_drewN ?_ _ | refine nw_set ?_ (by first | (simp; done) | (simp; omega) | omega) _))))).mono ?_; rw [HR.out]; (rintro e w' ⟨rfl, hb⟩; obtain ⟨n, es, rfl⟩ := below_more hb; clear hb)))
  go_ret2
  exact ⟨by rw [HE.out]; rfl, by (repeat (first | exact Below.refl _ _ | assumption | refine nw_more ?_ _ _ | refine nw_alloc ?_ _ | refine nw_drew ?_ | refine nw_drewN ?_ _ | refine nw_set ?_ (by first | (simp; done) | (simp; omega) | omega) _))⟩
set_option maxHeartbeats 1000000 in
theorem Get_none (B : Nat) (w : World) (v u : Value) (S : List ByteArray) (F : List Int) (n : Nat) (h : PageIn B w v u S F) (ho : PgOk S F) (hr : recB S F n = false) :
    Calls Try.prog 10 #[.agg #[v, u], .int .i64 n] w fun e w' => e = .returned (.tuple #[.string { data := #[] }, .int .i64 3]) ∧ Below w.heap.size w w' := by
  have HP := Lib.hid h
  have HO := Lib.hid ho
  have HR := Lib.hid hr
  clear h ho hr
  go_enter Try.func10, Try.ntmps10
  go_wp2_with (first | (go_at_call 15; refine (pageMayBe_any B _ _ _ S F (HP.out.below (by (repeat (first | exact Below.refl _ _ | assumption | refine nw_more ?_ _ _ | refine nw_alloc ?_ _ | refine nw_drew ?_ | refine nw_drewN ?_ _ | refine nw_set ?_ (by first | (simp; done) | (simp; omega) | omega) _)))) HO.out).mono ?_; (rintro e w' ⟨rfl, hb⟩; obtain ⟨n, es, rfl⟩ := below_more hb; clear hb)) | (go_at_call 16; refine (isRecord_any B _ _ _ S F _ (HP.out.below (by (repeat (first | exact Below.refl _ _ | assumption | refine nw_more ?_ _ _ | refine nw_alloc ?_ _ | refine nw_drew ?_ | refine nw_drewN ?_ _ | refine nw_set ?_ (by first | (simp; done) | (simp; omega) | omega) _))))).mono ?_; rw [HR.out]; (rintro e w' ⟨rfl, hb⟩; obtain ⟨n, es, rfl⟩ := below_more hb; clear hb)))
  go_ret2
  exact ⟨rfl, by (repeat (first | exact Below.refl _ _ | assumption | refine nw_more ?_ _ _ | refine nw_alloc ?_ _ | refine nw_drew ?_ | refine nw_drewN ?_ _ | refine nw_set ?_ (by first | (simp; done) | (simp; omega) | omega) _))⟩

theorem cell_swap {X Y : World} {n m g i : Nat} {es : Array Obj} (hs : Y.heap.size = X.heap.size) (hg : X.heap.size ≤ g) : (more Y m es).cell? ⟨g, i, none⟩ = (more X n es).cell? ⟨g, i, none⟩ :=
  World.cell?_of_block (by simp only [more]; rw [Array.getElem?_append_right (by omega), Array.getElem?_append_right (by omega), hs])
theorem frozen_swap {X Y : World} {n m g i : Nat} {es : Array Obj} (hs : Y.heap.size = X.heap.size) (hg : X.heap.size ≤ g) : (more Y m es).frozen? ⟨g, i, none⟩ = (more X n es).frozen? ⟨g, i, none⟩ :=
  World.frozen?_of_block (by simp only [more]; rw [Array.getElem?_append_right (by omega), Array.getElem?_append_right (by omega), hs])

theorem stays_swap {X Y : World} {n m : Nat} {es : Array Obj} (hs : Y.heap.size = X.heap.size) : Stays X.heap.size (more X n es) (more Y m es) := by
  refine ⟨by simp; omega, fun k hk hk2 => ?_⟩
  simp only [more]
  rw [Array.getElem?_append_right (by omega), Array.getElem?_append_right (by omega), hs]

set_option maxHeartbeats 1000000 in
theorem Add_any (B : Nat) (w : World) (v u : Value) (S : List ByteArray) (F : List Int) (s : ByteArray) (h : PageIn B w v u S F) (ho : PgOk S F) (hs : s.size ≤ 140737488355328) :
    Calls Try.prog 8 #[.agg #[v, u], .string s] w fun e w' => (fitsB (addS S F s) = true → ∃ u1 u2, e = .returned (.tuple #[.agg #[u1, u2], .int .i64 (slotN S F), .int .i64 0]) ∧ PageIn w.heap.size w' u1 u2 (addS S F s) F.tail) ∧ (fitsB (addS S F s) = false → e = .returned (.tuple #[.agg #[.slice none 0 0, .slice none 0 0], .int .i64 0, .int .i64 5])) ∧ Below w.heap.size w w' := by
  have HP := Lib.hid h
  have HO := Lib.hid ho
  obtain ⟨hk, h17⟩ := slot_lt ho
  have hz := open_small ho
  have hop := fun (w' : World) (h' : PageIn B w' v u S F) => opened_any B w' v u S F h' ho
  have HA : (openS S F).set (slotN S F) s = addS S F s := rfl
  generalize addS S F s = R at *
  generalize openS S F = T at *
  generalize slotN S F = k at *
  generalize F.tail = G at *
  have HA := Lib.hid HA
  have HOP := Lib.hid hop
  clear h ho hop
  go_enter Try.func8, Try.ntmps8
  go_wp2_with (first | (go_at_call 15; refine (pageMayBe_any B _ _ _ S F (HP.out.below (by (repeat (first | exact Below.refl _ _ | assumption | refine nw_more ?_ _ _ | refine nw_alloc ?_ _ | refine nw_drew ?_ | refine nw_drewN ?_ _ | refine nw_set ?_ (by first | (simp; done) | (simp; omega) | omega) _)))) HO.out).mono ?_; (rintro e w' ⟨rfl, hb⟩; obtain ⟨n, es, rfl⟩ := below_more hb; clear hb)))
  refine (HOP.out _ (HP.out.below (by (repeat (first | exact Below.refl _ _ | assumption | refine nw_more ?_ _ _ | refine nw_alloc ?_ _ | refine nw_drew ?_ | refine nw_drewN ?_ _ | refine nw_set ?_ (by first | (simp; done) | (simp; omega) | omega) _))))).mono ?_
  rintro e w' ⟨u1, u2, rfl, ho1, ho2, hap, hb⟩
  obtain ⟨g, cap, rfl, hg, hgw⟩ := OwnS.slice ho1 (by omega)
  obtain ⟨pf, cf, rfl, hcf⟩ := ho2.slice
  have HAP := Lib.hid hap
  clear hap
  obtain ⟨n2, es2, rfl⟩ := below_more hb
  have hM : Mid g (w.heap.size + 1 + 1 + es.size) es2.size := by simp at hg hgw; exact ⟨by omega, by omega⟩
  have hg1 : ¬ g = w.heap.size + 1 := by simp at hg; omega
  have hg2 : ¬ w.heap.size + 1 = g := by simp at hg; omega
  have hX : ∀ a : Value, (more ((w.alloc (Obj.cells #[v, u] 25)).alloc (Obj.cells #[.slice (some ⟨g, 0, none⟩) T.length cap, a] 25)) n es).heap.size = (more ((w.alloc (Obj.cells #[v, u] 25)).alloc (Obj.cells #[.slice none 0 0, .slice none 0 0] 25)) n es).heap.size := fun a => by simp
  have HO1 : Hid (OwnS (more ((w.alloc (Obj.cells #[v, u] 25)).alloc (Obj.cells #[.slice none 0 0, .slice none 0 0] 25)) n es).heap.size (more (more ((w.alloc (Obj.cells #[v, u] 25)).alloc (Obj.cells #[.slice (some ⟨g, 0, none⟩) T.length cap, .slice pf G.length cf] 25)) n es) n2 es2) (.slice (some ⟨g, 0, none⟩) T.length cap) T) := Lib.hid (own_swap ho1 (hX _) (Nat.le_refl _))
  have HI2 : Hid (IntsIn (more ((w.alloc (Obj.cells #[v, u] 25)).alloc (Obj.cells #[.slice none 0 0, .slice none 0 0] 25)) n es).heap.size (more (more ((w.alloc (Obj.cells #[v, u] 25)).alloc (Obj.cells #[.slice (some ⟨g, 0, none⟩) T.length cap, .slice pf G.length cf] 25)) n es) n2 es2) (.slice pf G.length cf) G) := Lib.hid (ho2.stays (stays_swap (hX _)))
  obtain ⟨hc, hf⟩ := OwnS.cell HO1.out k hk
  have HS2 := Lib.hid (OwnS.set HO1.out k s)
  rw [HA.out] at HS2
  clear hb ho1 ho2 hgw hg hX
  have k1 : (k : Int) < (T.length : Int) := by omega
  have HSS := Lib.hid (OwnS.inn HS2.out (by rw [← HA.out, List.length_set]; omega) (by rw [← HA.out]; intro x hx; rcases List.mem_or_eq_of_mem_set hx with hx | rfl; exact hz x hx; exact hs))
  have HL := Lib.hid (show R.length ≤ 17 by rw [← HA.out, List.length_set]; exact h17)
  clear HA HS2 hz
  cases hfit : fitsB R
  · have HFT := Lib.hid hfit
    clear hfit
    go_wp2_with (first | (go_at_call 21; refine (fits_any 0 _ _ R (StrsIn.mono HSS.out (Nat.zero_le _)) HL.out).mono ?_; rw [HFT.out]; rintro e w' ⟨rfl, rfl⟩))
    refine bodyPost_ret (v := .tuple #[.agg #[.slice none 0 0, .slice none 0 0], .int .i64 0, .int .i64 5]) (by simp [results, Try.results8, go_sem, hg1, hg2]) rfl ⟨(fun h => by rw [HFT.out] at h; cases h), fun _ => rfl, ?_⟩
    have hgw : w.heap.size ≤ g := by have := hM.1; omega
    (repeat (first | exact Below.refl _ _ | assumption | refine nw_more ?_ _ _ | refine nw_alloc ?_ _ | refine nw_drew ?_ | refine nw_drewN ?_ _ | refine nw_set ?_ (by first | (simp; done) | (simp; omega) | omega) _))
  · have HFT := Lib.hid hfit
    clear hfit
    go_wp2_with (first | (go_at_call 21; refine (fits_any 0 _ _ R (StrsIn.mono HSS.out (Nat.zero_le _)) HL.out).mono ?_; rw [HFT.out]; rintro e w' ⟨rfl, rfl⟩))
    refine bodyPost_ret (v := .tuple #[.agg #[.slice (some ⟨g, 0, none⟩) T.length cap, .slice pf G.length cf], .int .i64 k, .int .i64 0]) (by simp [results, Try.results8, go_sem, hg1, hg2]) rfl ⟨fun _ => ⟨_, _, rfl, ?_⟩, (fun h => by rw [HFT.out] at h; cases h), ?_⟩
    · have hgw : w.heap.size + 1 < g := by have := hM.1; omega
      refine ⟨?_, ?_⟩
      · refine ((HSS.out.stays (Stays.set ?_ _)).stays (Stays.set ?_ _)).mono ?_ <;> simp <;> omega
      · refine (((HI2.out.set ?_ _).stays (Stays.set ?_ _)).stays (Stays.set ?_ _)).mono ?_
        · exact HAP.out
        all_goals (simp; try omega)
    · have hgw : w.heap.size ≤ g := by have := hM.1; omega
      (repeat (first | exact Below.refl _ _ | assumption | refine nw_more ?_ _ _ | refine nw_alloc ?_ _ | refine nw_drew ?_ | refine nw_drewN ?_ _ | refine nw_set ?_ (by first | (simp; done) | (simp; omega) | omega) _))
end Go.Proofs.Ytcbablighgooeaa
