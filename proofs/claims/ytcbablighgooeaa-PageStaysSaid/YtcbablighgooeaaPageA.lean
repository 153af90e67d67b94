/- Contracts of package page: sizes, what may be. -/
import Derived.Test.YtcbablighgooeaaRows
import Derived.Test.YtcbablighgooeaaPPlain
import Derived.Test.YtcbablighgooeaaWQuiet
import Derived.WalkKit
import Derived.WalkSpells
import Derived.IntWalk
import Derived.Deep.LoopGhost
namespace Go.Proofs.Ytcbablighgooeaa
open Go.RowKit

theorem num5_any (n : Int) (w : World) :
    Calls Try.prog 7 #[.int .i64 n] w fun e w' => e = .returned (.int .i64 n) ∧ w = w' := by
  go_enter Try.func7, Try.ntmps7
  go_wp2
  go_ret
  exact ⟨rfl, rfl⟩
theorem mostBytes_any (w : World) :
    Calls Try.prog 32 #[] w fun e w' => e = .returned (.int .i64 200) ∧ w = w' := by
  go_enter Try.func32, Try.ntmps32
  go_wp2
  go_ret
  exact ⟨rfl, rfl⟩

theorem sum_drop {S : List ByteArray} {k : Nat} {s : ByteArray} (h : S.drop k = s :: S.drop (k + 1)) : sumL (S.drop k) = s.size + sumL (S.drop (k + 1)) := by rw [h, sumL]

set_option maxHeartbeats 400000 in
theorem size_any (B : Nat) (w : World) (v : Value) (S : List ByteArray) (h : StrsIn B w v S) (h17 : S.length ≤ 17) :
    Calls Try.prog 31 #[v] w fun e w' => e = .returned (.int .i64 (sizeP S)) ∧ w = w' := by
  obtain ⟨p, cap, rfl, hl, ht⟩ := h.at
  have H := Lib.hid ht
  clear h ht
  go_enter Try.func31, Try.ntmps31
  go_wp2
  go_loop [3, 11] (fun n i => ∃ (m k : Nat), k ≤ S.length ∧ m ≤ 68 + k * 140737488355328 ∧ Hid (m + sumL (S.drop k) = sizeP S) ∧ n = .int .i64 m ∧ i = .int .i64 k) (fun _ i => S.length - (intOf i).toNat)
  case atStart => exact ⟨4 * S.length, 0, Nat.zero_le _, by omega, rfl, by go_num, rfl⟩
  case round =>
    obtain ⟨m, k, hk, hm, HT, rfl, rfl⟩ := hrel
    by_cases hlt : k < S.length
    · obtain ⟨b, off, s, rfl, hb, hc, hd, -, hsz⟩ := H.out k hlt
      have HE : Hid (m + s.size + sumL (S.drop (k + 1)) = sizeP S) := Lib.hid (by have := HT.out; rw [sum_drop hd] at this; omega)
      clear hd HT
      go_wp2
      go_round
      case rel => exact ⟨m + s.size, k + 1, by omega, by omega, HE.out, by go_num, by go_num⟩
      case measure => simp [intOf]; omega
    · have e : k = S.length := by omega
      have HE : Hid (m = sizeP S) := by have := HT.out; rw [e, List.drop_length] at this; exact this
      clear e HT
      go_wp2
      go_ret
      exact ⟨ret_int (by rw [HE.out]), rfl⟩

set_option maxHeartbeats 400000 in
theorem fits_any (B : Nat) (w : World) (v : Value) (S : List ByteArray) (h : StrsIn B w v S) (h17 : S.length ≤ 17) :
    Calls Try.prog 21 #[v] w fun e w' => e = .returned (.bool (fitsB S)) ∧ w = w' := by
  have HS := Lib.hid h
  obtain ⟨p, cap, rfl, -⟩ := h.slice
  clear h
  by_cases h16 : S.length ≤ 16
  · by_cases h200 : sizeP S ≤ 200
    · have h200' : decide ((sizeP S : Int) ≤ 200) = true := by simp; omega
      go_enter Try.func21, Try.ntmps21
      go_wp2_with (first | (go_at_call 31; refine (size_any B _ _ S HS.out (by omega)).mono ?_; rintro e w' ⟨rfl, rfl⟩) | (go_at_call 32; refine (mostBytes_any _).mono ?_; rintro e w' ⟨rfl, rfl⟩))
      go_ret
      exact ⟨ret_bool (by unfold fitsB; rw [decide_eq_true h16, decide_eq_true h200]; rfl), rfl⟩
    · have h200' : decide ((sizeP S : Int) ≤ 200) = false := by simp; omega
      go_enter Try.func21, Try.ntmps21
      go_wp2_with (first | (go_at_call 31; refine (size_any B _ _ S HS.out (by omega)).mono ?_; rintro e w' ⟨rfl, rfl⟩) | (go_at_call 32; refine (mostBytes_any _).mono ?_; rintro e w' ⟨rfl, rfl⟩))
      go_ret
      exact ⟨ret_bool (by unfold fitsB; rw [decide_eq_true h16, decide_eq_false h200]; rfl), rfl⟩
  · go_enter Try.func21, Try.ntmps21
    go_wp2
    go_ret
    exact ⟨ret_bool (by unfold fitsB; rw [decide_eq_false h16]; rfl), rfl⟩

/-- The page's two slices, each in blocks from B on. -/
def PageIn (B : Nat) (w : World) (v u : Value) (S : List ByteArray) (F : List Int) : Prop := StrsIn B w v S ∧ IntsIn B w u F
theorem PageIn.below {B : Nat} {w w' : World} {v u : Value} {S : List ByteArray} {F : List Int} (h : PageIn B w v u S F) (hb : Below w.heap.size w w') : PageIn B w' v u S F := ⟨h.1.below hb, h.2.below hb⟩
theorem PageIn.stays {B : Nat} {w w' : World} {v u : Value} {S : List ByteArray} {F : List Int} (h : PageIn B w v u S F) (hb : Stays B w w') : PageIn B w' v u S F := ⟨h.1.stays hb, h.2.stays hb⟩
theorem PageIn.mono {B B' : Nat} {w : World} {v u : Value} {S : List ByteArray} {F : List Int} (h : PageIn B w v u S F) (hB : B' ≤ B) : PageIn B' w v u S F := ⟨h.1.mono hB, h.2.mono hB⟩

set_option maxHeartbeats 1000000 in
theorem freeMayBe_any (B : Nat) (w : World) (v u : Value) (S : List ByteArray) (F : List Int) (h : PageIn B w v u S F) (ho : PgOk S F) :
    Calls Try.prog 25 #[.agg #[v, u]] w fun e w' => e = .returned (.bool true) ∧ Below w.heap.size w w' := by
  have HO := Lib.hid ho
  have hl16 := ho.len.1
  obtain ⟨p, cap, rfl, hl, ht⟩ := h.1.at
  obtain ⟨q, qcap, rfl, hq, hu⟩ := h.2.toAt.at
  have H := Lib.hid ht
  have K := Lib.hid hu
  clear h ht hu ho
  go_enter Try.func25, Try.ntmps25
  go_wp2
  go_loop [4, 14] (fun n i => ∃ (m : Int) (k : Nat), k ≤ F.length ∧ Hid (∀ x ∈ F.drop k, m ≤ x) ∧ n = .int .i64 m ∧ i = .int .i64 k) (fun _ i => F.length - (intOf i).toNat)
  case atStart => exact ⟨0, 0, Nat.zero_le _, Lib.hid (fun x hx => (HO.out.low x (List.mem_of_mem_drop hx)).1), rfl, rfl⟩
  case round =>
    obtain ⟨m, k, hk, HT, rfl, rfl⟩ := hrel
    by_cases hlt : k < F.length
    · obtain ⟨b, off, x, rfl, hb, hc, hd, hxk⟩ := K.out k hlt
      have hx := HO.out.low x (List.mem_of_getElem? hxk)
      have hz := HO.out.none x (List.mem_of_getElem? hxk)
      have hmx : m ≤ x := HT.out x (by rw [hd]; exact List.mem_cons_self ..)
      have HR : Hid (∀ y ∈ F.drop (k + 1), x + 1 ≤ y) := Lib.hid (fun y hy => by
        have h1 : (F.drop k).Pairwise (· < ·) := HO.out.rise.drop
        rw [hd, List.pairwise_cons] at h1
        have := h1.1 y hy; omega)
      clear hd hxk HT
      obtain ⟨j, rfl⟩ : ∃ j : Nat, x = j := ⟨x.toNat, by omega⟩
      obtain ⟨hx0, hx1⟩ := hx
      obtain ⟨b2, off2, s, rfl, hb2, hc2, -, hs2, -⟩ := H.out j (by omega)
      obtain rfl : s = { data := #[] } := by
        simp only [Int.toNat_natCast] at hz
        have : S.getD j E0 = s := by simp [List.getD, hs2]
        rw [← this, hz]; rfl
      clear hz hs2
      have h1 : ¬ (j : Int) < m := by omega
      have h2 : ¬ ((S.length : Int) - 1 ≤ j) := by omega
      have h3 : (j : Int) < S.length := by omega
      go_wp2
      go_round
      case rel => exact ⟨(j : Int) + 1, k + 1, by omega, HR, by go_num, by go_num⟩
      case measure => simp [intOf]; omega
    · have e : k = F.length := by omega
      clear e
      go_wp2
      go_ret
      exact ⟨rfl, by (repeat (first | exact Below.refl _ _ | assumption | refine nw_more ?_ _ _ | refine nw_alloc ?_ _ | refine nw_drew ?_ | refine nw_drewN ?_ _ | refine nw_set ?_ (by first | (simp; done) | (simp; omega) | omega) _))⟩

set_option maxHeartbeats 400000 in
theorem pageMayBe_any (B : Nat) (w : World) (v u : Value) (S : List ByteArray) (F : List Int) (h : PageIn B w v u S F) (ho : PgOk S F) :
    Calls Try.prog 15 #[.agg #[v, u]] w fun e w' => e = .returned (.bool true) ∧ Below w.heap.size w w' := by
  have HO := Lib.hid ho
  have HP := Lib.hid h
  clear h ho
  go_enter Try.func15, Try.ntmps15
  go_wp2_with (first | (go_at_call 21; refine (fits_any B _ _ S (HP.out.1.below (by (repeat (first | exact Below.refl _ _ | assumption | refine nw_more ?_ _ _ | refine nw_alloc ?_ _ | refine nw_drew ?_ | refine nw_drewN ?_ _ | refine nw_set ?_ (by first | (simp; done) | (simp; omega) | omega) _)))) (by have := HO.out.len.1; omega)).mono ?_; rw [HO.out.fits]; rintro e w' ⟨rfl, rfl⟩) | (go_at_call 25; refine (freeMayBe_any B _ _ _ S F (HP.out.below (by (repeat (first | exact Below.refl _ _ | assumption | refine nw_more ?_ _ _ | refine nw_alloc ?_ _ | refine nw_drew ?_ | refine nw_drewN ?_ _ | refine nw_set ?_ (by first | (simp; done) | (simp; omega) | omega) _)))) HO.out).mono ?_; (rintro e w' ⟨rfl, hb⟩; obtain ⟨n, es, rfl⟩ := below_more hb; clear hb)))
  go_ret
  exact ⟨rfl, by (repeat (first | exact Below.refl _ _ | assumption | refine nw_more ?_ _ _ | refine nw_alloc ?_ _ | refine nw_drew ?_ | refine nw_drewN ?_ _ | refine nw_set ?_ (by first | (simp; done) | (simp; omega) | omega) _))⟩

theorem rec_low {S : List ByteArray} {F : List Int} {n : Int} (h : n < 0) : recB S F n = false := by unfold recB; rw [decide_eq_false (by omega)]; rfl
theorem rec_high {S : List ByteArray} {F : List Int} {n : Int} (h : (S.length : Int) ≤ n) : recB S F n = false := by unfold recB; rw [decide_eq_false (p := n < S.length) (by omega)]; simp
theorem rec_in {S : List ByteArray} {F : List Int} {n : Int} (h : 0 ≤ n) (h1 : n < S.length) : recB S F n = !has F n := by unfold recB; rw [decide_eq_true h, decide_eq_true h1]; rfl
end Go.Proofs.Ytcbablighgooeaa
