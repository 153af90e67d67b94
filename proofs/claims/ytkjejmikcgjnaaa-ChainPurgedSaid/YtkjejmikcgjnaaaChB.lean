/- Contracts: lists of versions, chains, where the newest stands. No condition. -/
import Derived.Test.YtkjejmikcgjnaaaChA
namespace Go.Proofs.Ytkjejmikcgjnaaa
open Go.RowKit

set_option maxHeartbeats 1000000 in
theorem listMayBe_any (w : World) (v : Value) (l : List Vr) (h : VsAt w v l) :
    Calls Try.prog 29 #[v] w fun e w' => e = .returned (.bool (lOk 1073741825 l)) ∧ Below w.heap.size w w' := by
  obtain ⟨p, cap, rfl, hl, hcap, ht⟩ := h.at
  have H := Lib.hid ht
  generalize hR : lOk 1073741825 l = R
  have HR0 := Lib.hid hR
  clear h ht hR
  go_enter Try.func29, Try.ntmps29
  go_wp2_with (first | (go_at_call 32; refine (mostCommit_any _).mono ?_; rintro e w' ⟨rfl, rfl⟩))
  go_loopg [3, 10] (l.length + 1) (fun g s3 s10 wr => (∃ n es, wr = more w n es) ∧ ∃ (k : Nat) (a : Int), k ≤ l.length ∧ g + k = l.length + 1 ∧ s3 = .int .i64 a ∧ s10 = .int .i64 k ∧ Hid (lOk a (l.drop k) = R))
  case atStart => exact ⟨below_more (Below.refl _ _), 0, 1073741825, Nat.zero_le _, rfl, rfl, rfl, HR0⟩
  case round =>
    obtain ⟨⟨n, es, rfl⟩, k, a, hk, hg, rfl, rfl, HT⟩ := hrel
    obtain rfl : gk = l.length + 1 - k := by omega
    clear hg
    by_cases hlt : k < l.length
    · obtain ⟨b, off, x, rfl, hb, hc0, hc1, hc2, hd, hxk, hsz⟩ := H.out k hlt
      obtain ⟨c, s, g⟩ := x
      dsimp only at hc0 hc1 hc2 hsz
      have HT' : Hid ((decide (c < a) && (vOk ⟨c, s, g⟩ && lOk c (l.drop (k + 1)))) = R) := Lib.hid (by have := HT.out; rw [hd] at this; exact this)
      clear hd HT hxk H
      by_cases hca : c < a
      · cases hv : vOk ⟨c, s, g⟩
        · have HE : Hid (R = false) := Lib.hid (by rw [← HT'.out, hv]; simp)
          have HV := Lib.hid hv
          clear hv HT'
          go_wp2_with (first | (go_at_call 33; refine (versionMayBe_any _ _ _ _ hsz).mono ?_; rw [HV.out]; (rintro e w' ⟨rfl, hb⟩; obtain ⟨n, es, rfl⟩ := below_more hb; clear hb)))
          go_ret
          exact ⟨ret_bool HE.out.symm, by (repeat (first | exact Below.refl _ _ | assumption | refine nw_more ?_ _ _ | refine nw_alloc ?_ _ | refine nw_drew ?_ | refine nw_drewN ?_ _ | refine nw_set ?_ (by first | (simp; done) | (simp; omega) | omega) _))⟩
        · have HE : Hid (lOk c (l.drop (k + 1)) = R) := Lib.hid (by rw [← HT'.out, hv]; simp [hca])
          have HV := Lib.hid hv
          clear hv HT'
          go_wp2_with (first | (go_at_call 33; refine (versionMayBe_any _ _ _ _ hsz).mono ?_; rw [HV.out]; (rintro e w' ⟨rfl, hb⟩; obtain ⟨n, es, rfl⟩ := below_more hb; clear hb)))
          go_roundg (l.length + 1 - k - 1)
          case measure => omega
          case rel => exact ⟨below_more (by (repeat (first | exact Below.refl _ _ | assumption | refine nw_more ?_ _ _ | refine nw_alloc ?_ _ | refine nw_drew ?_ | refine nw_drewN ?_ _ | refine nw_set ?_ (by first | (simp; done) | (simp; omega) | omega) _))), k + 1, c, by omega, by omega, rfl, by go_num, HE⟩
      · have HE : Hid (R = false) := Lib.hid (by rw [← HT'.out, decide_eq_false hca]; rfl)
        clear HT'
        go_wp2
        go_ret
        exact ⟨ret_bool HE.out.symm, by (repeat (first | exact Below.refl _ _ | assumption | refine nw_more ?_ _ _ | refine nw_alloc ?_ _ | refine nw_drew ?_ | refine nw_drewN ?_ _ | refine nw_set ?_ (by first | (simp; done) | (simp; omega) | omega) _))⟩
    · have e : k = l.length := by omega
      have HE : Hid (R = true) := Lib.hid (by have := HT.out; rw [e, List.drop_length] at this; exact this.symm)
      clear e HT H
      go_wp2
      go_ret
      exact ⟨ret_bool HE.out.symm, by (repeat (first | exact Below.refl _ _ | assumption | refine nw_more ?_ _ _ | refine nw_alloc ?_ _ | refine nw_drew ?_ | refine nw_drewN ?_ _ | refine nw_set ?_ (by first | (simp; done) | (simp; omega) | omega) _))⟩

set_option maxHeartbeats 1000000 in
theorem mayBe_any (w : World) (s : ByteArray) (v : Value) (l : List Vr) (hs : s.size ≤ 140737488355328) (h : VsAt w v l) :
    Calls Try.prog 20 #[.agg #[.string s, v]] w fun e w' => e = .returned (.bool (chOk s l)) ∧ Below w.heap.size w w' := by
  obtain ⟨p, cap, rfl, hcap⟩ := h.slice
  have hl := h.1
  have H := Lib.hid h
  clear h
  cases hk : kB s
  · have HK := Lib.hid hk
    go_enter Try.func20, Try.ntmps20
    go_wp2_with (first | (go_at_call 28; refine (key_any _ _ hs).mono ?_; rw [HK.out]; rintro e w' ⟨rfl, rfl⟩))
    go_ret
    exact ⟨ret_bool (by simp [chOk, hk]), by (repeat (first | exact Below.refl _ _ | assumption | refine nw_more ?_ _ _ | refine nw_alloc ?_ _ | refine nw_drew ?_ | refine nw_drewN ?_ _ | refine nw_set ?_ (by first | (simp; done) | (simp; omega) | omega) _))⟩
  · have HK := Lib.hid hk
    by_cases h0 : 0 < l.length
    · have h0' : (0 : Int) < (l.length : Int) := by omega
      go_enter Try.func20, Try.ntmps20
      go_wp2_with (first | (go_at_call 28; refine (key_any _ _ hs).mono ?_; rw [HK.out]; rintro e w' ⟨rfl, rfl⟩) | (go_at_call 29; refine (listMayBe_any _ _ _ (H.out.below (by (repeat (first | exact Below.refl _ _ | assumption | refine nw_more ?_ _ _ | refine nw_alloc ?_ _ | refine nw_drew ?_ | refine nw_drewN ?_ _ | refine nw_set ?_ (by first | (simp; done) | (simp; omega) | omega) _))))).mono ?_; (rintro e w' ⟨rfl, hb⟩; obtain ⟨n, es, rfl⟩ := below_more hb; clear hb)))
      go_ret
      exact ⟨ret_bool (by simp [chOk, hk, h0]), by (repeat (first | exact Below.refl _ _ | assumption | refine nw_more ?_ _ _ | refine nw_alloc ?_ _ | refine nw_drew ?_ | refine nw_drewN ?_ _ | refine nw_set ?_ (by first | (simp; done) | (simp; omega) | omega) _))⟩
    · have h0' : ¬ (0 : Int) < (l.length : Int) := by omega
      go_enter Try.func20, Try.ntmps20
      go_wp2_with (first | (go_at_call 28; refine (key_any _ _ hs).mono ?_; rw [HK.out]; rintro e w' ⟨rfl, rfl⟩))
      go_ret
      exact ⟨ret_bool (by unfold chOk; rw [hk, decide_eq_false h0]; rfl), by (repeat (first | exact Below.refl _ _ | assumption | refine nw_more ?_ _ _ | refine nw_alloc ?_ _ | refine nw_drew ?_ | refine nw_drewN ?_ _ | refine nw_set ?_ (by first | (simp; done) | (simp; omega) | omega) _))⟩

set_option maxHeartbeats 1000000 in
theorem seenFn_any (w : World) (bl bn b off L cap i : Nat) (n c : Int) (hbl : Lt bl w.heap.size) (hbn : Lt bn w.heap.size) (hb : Lt b w.heap.size) (hi : i < L) (hL : L ≤ 140737488355328)
    (hcl : w.cell? ⟨bl, 0, none⟩ = some (.slice (some ⟨b, off, none⟩) L cap)) (hcn : w.cell? ⟨bn, 0, none⟩ = some (.int .i64 n)) (hc : w.cell? ⟨b, off + i * 3, none⟩ = some (.int .i64 c)) :
    Calls Try.prog 31 #[.int .i64 i, .pointer (some ⟨bl, 0, none⟩), .pointer (some ⟨bn, 0, none⟩)] w fun e w' => e = .returned (.bool (decide (c ≤ n))) ∧ Below w.heap.size w w' := by
  have h1 : (i : Int) < (L : Int) := by omega
  go_enter Try.func31, Try.ntmps31
  go_wp2_with fail
  (refine wp_region_quiet_more (by kernel_rfl) (by kernel_rfl) ?_; (repeat (first | go_big_quiet_skip | quiet_step ((first | fail)))); refine wpQuiet_nil ?_; intro _ hw'; obtain ⟨⟨nq, esq⟩, hw''⟩ := hw'; subst hw''; dsimp only)
  go_wp2
  go_ret
  exact ⟨rfl, by (repeat (first | exact Below.refl _ _ | assumption | refine nw_more ?_ _ _ | refine nw_alloc ?_ _ | refine nw_drew ?_ | refine nw_drewN ?_ _ | refine nw_set ?_ (by first | (simp; done) | (simp; omega) | omega) _))⟩
end Go.Proofs.Ytkjejmikcgjnaaa
