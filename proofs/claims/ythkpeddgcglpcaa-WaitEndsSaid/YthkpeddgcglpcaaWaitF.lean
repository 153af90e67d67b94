/- Contracts of package wait: ages, the youngest. -/
import Derived.Test.YthkpeddgcglpcaaWaitE
namespace Go.Proofs.Ythkpeddgcglpcaa
open Go.RowKit

set_option maxHeartbeats 1000000 in
theorem agesMayBe_any (w : World) (v : Value) (l : List Int) (h : IntsAt w v l) :
    Calls Try.prog 31 #[v] w fun e w' => e = .returned (.bool (agesB l)) ∧ Below w.heap.size w w' := by
  have HL := Lib.hid h
  have hl := h.1
  clear h
  go_enter Try.func31, Try.ntmps31
  go_wp2_with fail
  refine (clone_any _ _ l HL.out).mono ?_
  rintro e w1 ⟨u, rfl, ho, hb⟩
  have HO := Lib.hid ho
  have HB := Lib.hid hb
  clear ho hb
  go_wp2_with fail
  refine (sort_any w.heap.size _ _ l HO.out (by have := HB.out.size; omega) hl).mono ?_
  rintro e w2 ⟨rfl, ho, hb⟩
  have HI := Lib.hid (ho.at (by rw [sorted_length]; exact hl))
  have HB2 := Lib.hid (HB.out.trans hb)
  clear ho hb HO HB
  have hat := HI.out.at
  generalize hs : sorted l = s at *
  have HS := Lib.hid hs
  clear hs
  obtain ⟨p, cap, rfl, hsl, ht⟩ := hat
  have H := Lib.hid ht
  clear ht
  go_wp2_with fail
  go_loop [4, 13] (fun m i => ∃ (a : Int) (k : Nat), k ≤ s.length ∧ Hid (agesFrom a (s.drop k) = agesFrom 0 s) ∧ m = .int .i64 a ∧ i = .int .i64 k) (fun _ i => s.length - (intOf i).toNat)
  case atStart => exact ⟨_, 0, Nat.zero_le _, rfl, rfl, rfl⟩
  case round =>
    obtain ⟨a, k, hk, HT, rfl, rfl⟩ := hrel
    by_cases hlt : k < s.length
    · obtain ⟨b, off, n, rfl, hb, hc, hd, -⟩ := H.out k hlt
      have HT1 : Hid (agesFrom a (n :: s.drop (k + 1)) = agesFrom 0 s) := by have := HT.out; rw [hd] at this; exact this
      clear hb hd HT
      by_cases hn : n < 0
      · have HE : Hid (false = agesFrom 0 s) := by have := HT1.out; rw [ages_low _ hn] at this; exact this
        go_wp2
        go_ret
        exact ⟨ret_bool (by rw [HE.out]; unfold agesB; rw [HS.out]), HB2.out⟩
      · by_cases hp : 0 < n
        · by_cases he : n = a
          · subst he
            have HE : Hid (false = agesFrom 0 s) := by have := HT1.out; rw [ages_same _ hp] at this; exact this
            go_wp2
            go_ret
            exact ⟨ret_bool (by rw [HE.out]; unfold agesB; rw [HS.out]), HB2.out⟩
          · have HE : Hid (agesFrom n (s.drop (k + 1)) = agesFrom 0 s) := by have := HT1.out; rw [ages_go _ hp he] at this; exact this
            go_wp2
            go_round
            case rel => exact ⟨n, k + 1, by omega, HE.out, rfl, by go_num⟩
            case measure => simp [intOf]; omega
        · obtain rfl : n = 0 := by omega
          have HE : Hid (agesFrom 0 (s.drop (k + 1)) = agesFrom 0 s) := by have := HT1.out; rw [ages_zero] at this; exact this
          go_wp2
          go_round
          case rel => exact ⟨0, k + 1, by omega, HE.out, rfl, by go_num⟩
          case measure => simp [intOf]; omega
    · have e : k = s.length := by omega
      have HE : Hid (true = agesFrom 0 s) := by have := HT.out; rw [e, List.drop_length] at this; exact this
      clear e
      go_wp2
      go_ret
      exact ⟨ret_bool (by rw [HE.out]; unfold agesB; rw [HS.out]), HB2.out⟩

theorem cmp_any (x y : Int) (w : World) : Calls Try.prog 58 #[.int .i64 x, .int .i64 y] w fun e w' => e = .returned (.int .i64 (Go.Lib.compareInt x y)) ∧ w = w' :=
  (Try.cmp_Compare_int x y w).mono fun _ _ h => ⟨h.1, h.2.symm⟩
theorem age_at {w : World} {v : Value} {l : List Int} {a : Nat} (h : IntsAt w v l) (ha : a < l.length) : ∃ b off cap, v = .slice (some ⟨b, off, none⟩) l.length cap ∧ Lt b w.heap.size ∧ w.cell? ⟨b, off + a, none⟩ = some (.int .i64 (ageOf l a)) := by
  obtain ⟨p, cap, rfl, -, ht⟩ := h.at
  obtain ⟨b, off, x, rfl, hb, hc, -, hx⟩ := ht a ha
  exact ⟨b, off, cap, rfl, hb, by rw [hc]; simp [ageOf, hx]⟩

set_option maxHeartbeats 1000000 in
theorem older_any (w : World) (v : Value) (l : List Int) (a c : Int) (bb : Nat) (h : IntsAt w v l) (ha : OldIn l a) (hc : OldIn l c) (hbb : Lt bb w.heap.size) (hcc : w.cell? ⟨bb, 0, none⟩ = some v) :
    Calls Try.prog 57 #[.int .i64 a, .int .i64 c, .pointer (some ⟨bb, 0, none⟩)] w fun e w' => e = .returned (.int .i64 (Go.Lib.compareInt (ageOf l a) (ageOf l c))) ∧ Below w.heap.size w w' := by
  obtain ⟨i, rfl⟩ : ∃ i : Nat, a = i := ⟨a.toNat, by have := ha.1; omega⟩
  obtain ⟨j, rfl⟩ : ∃ j : Nat, c = j := ⟨c.toNat, by have := hc.1; omega⟩
  have hi : i < l.length := by have := ha.2; omega
  have hj : j < l.length := by have := hc.2; omega
  have hl := h.1
  obtain ⟨b, off, cap, rfl, hb, h1⟩ := age_at h hi
  obtain ⟨b', off', cap', e', -, h2⟩ := age_at h hj
  obtain ⟨⟨rfl, rfl⟩, rfl⟩ : (b = b' ∧ off = off') ∧ cap = cap' := by simpa using e'
  clear e' h ha hc
  have i0 : (0 : Int) ≤ (i : Int) := by omega
  have i1 : (i : Int) < (l.length : Int) := by omega
  have j0 : (0 : Int) ≤ (j : Int) := by omega
  have j1 : (j : Int) < (l.length : Int) := by omega
  generalize ageOf l i = x at *
  generalize ageOf l j = y at *
  go_enter Try.func57, Try.ntmps57
  go_wp2_with fail
  (refine wp_region_quiet_more (by kernel_rfl) (by kernel_rfl) ?_; (repeat (first | go_big_quiet_skip | quiet_step ((first | (go_at_call 58; exact Calls.more_same (cmp_any _ _ _)))))); refine wpQuiet_nil ?_; intro _ hw'; obtain ⟨⟨nq, esq⟩, hw''⟩ := hw'; subst hw''; dsimp only)
  go_wp2
  go_ret
  exact ⟨rfl, by (repeat (first | exact Below.refl _ _ | assumption | refine nw_more ?_ _ _ | refine nw_alloc ?_ _ | refine nw_drew ?_ | refine nw_drewN ?_ _ | refine nw_set ?_ (by first | (simp; done) | (simp; omega) | omega) _))⟩

theorem max_go {ages : List Int} {m x : Int} (r : List Int) (h : ageOf ages m < ageOf ages x) : maxFrom ages m (x :: r) = maxFrom ages x r := by rw [maxFrom, if_pos h]
theorem max_no {ages : List Int} {m x : Int} (r : List Int) (h : ¬ ageOf ages m < ageOf ages x) : maxFrom ages m (x :: r) = maxFrom ages m r := by rw [maxFrom, if_neg h]
theorem cmp_pos {x y : Int} (h : y < x) : Go.Lib.compareInt x y = 1 := by unfold Go.Lib.compareInt; rw [if_neg (by omega), if_pos h]
theorem cmp_not {x y : Int} (h : ¬ y < x) : ¬ 0 < Go.Lib.compareInt x y := by unfold Go.Lib.compareInt; split <;> (try split) <;> omega

set_option maxHeartbeats 1000000 in
theorem maxFunc_any (w : World) (u v : Value) (c ages : List Int) (bb : Nat) (hu : IntsAt w u c) (hv : IntsAt w v ages) (hc : ∀ o ∈ c, OldIn ages o) (hp : 0 < c.length) (hbb : Lt bb w.heap.size) (hcc : w.cell? ⟨bb, 0, none⟩ = some v) :
    Calls Try.prog 56 #[u, .func (.func 57) #[] #[.pointer (some ⟨bb, 0, none⟩)]] w fun e w' => e = .returned (.int .i64 (youngL ages c)) ∧ Below w.heap.size w w' := by
  have HV := Lib.hid hv
  have HC := Lib.hid hc
  obtain ⟨p, cap, rfl, hl, ht⟩ := hu.at
  have H := Lib.hid ht
  obtain ⟨b, off, x0, rfl, hb, hx, hd, hx0⟩ := ht 0 hp
  have HY : Hid (maxFrom ages x0 (c.drop 1) = youngL ages c) := Lib.hid (by
    rw [List.drop_zero] at hd; rw [hd]; rfl)
  have HX : Hid (OldIn ages x0) := Lib.hid (hc x0 (List.mem_of_getElem? hx0))
  rw [Nat.add_zero] at hx
  clear hu hv hc ht hd hx0
  have hp1 : ¬ (c.length : Int) < 1 := by omega
  go_enter Try.func56, Try.ntmps56
  go_wp2
  go_loopg [5, 6] c.length (fun g s5 s6 wr => (∃ n es, wr = more w n es) ∧ ∃ (k : Nat) (m : Int), 1 ≤ k ∧ k ≤ c.length ∧ g + k = c.length + 1 ∧ s5 = .int .i64 m ∧ s6 = .int .i64 k ∧ Hid (OldIn ages m) ∧ Hid (maxFrom ages m (c.drop k) = youngL ages c))
  case atStart => exact ⟨below_more (Below.refl _ _), 1, x0, by omega, by omega, by omega, rfl, rfl, HX, HY⟩
  case round =>
    clear HX HY
    obtain ⟨⟨n, es, rfl⟩, k, m, hk1, hk, hg, rfl, rfl, HX, HT⟩ := hrel
    obtain rfl : gk = c.length + 1 - k := by omega
    clear hg
    by_cases hlt : k < c.length
    · obtain ⟨b', off', x, e', -, hxk, hd, hmem⟩ := H.out k hlt
      obtain ⟨rfl, rfl⟩ : b = b' ∧ off = off' := by simpa using e'
      have HT1 : Hid (maxFrom ages m (x :: c.drop (k + 1)) = youngL ages c) := by have := HT.out; rw [hd] at this; exact this
      have HXX : Hid (OldIn ages x) := Lib.hid (HC.out x (List.mem_of_getElem? hmem))
      clear e' hd hmem HT
      by_cases hgt : ageOf ages m < ageOf ages x
      · have HE : Hid (maxFrom ages x (c.drop (k + 1)) = youngL ages c) := by have := HT1.out; rw [max_go _ hgt] at this; exact this
        have HG := Lib.hid (cmp_pos hgt)
        clear hgt HT1
        go_wp2_with (first | (go_at_call 57; refine (older_any _ _ ages _ _ bb (HV.out.below (by (repeat (first | exact Below.refl _ _ | assumption | refine nw_more ?_ _ _ | refine nw_alloc ?_ _ | refine nw_drew ?_ | refine nw_drewN ?_ _ | refine nw_set ?_ (by first | (simp; done) | (simp; omega) | omega) _)))) HXX.out HX.out (by simp [go_sem, hbb]) (by simp [go_sem, hbb, hcc])).mono ?_; rw [HG.out]; (rintro e w' ⟨rfl, hb⟩; obtain ⟨n, es, rfl⟩ := below_more hb; clear hb)))
        go_roundg (c.length + 1 - k - 1)
        case measure => omega
        case rel => exact ⟨below_more (by (repeat (first | exact Below.refl _ _ | assumption | refine nw_more ?_ _ _ | refine nw_alloc ?_ _ | refine nw_drew ?_ | refine nw_drewN ?_ _ | refine nw_set ?_ (by first | (simp; done) | (simp; omega) | omega) _))), k + 1, x, by omega, by omega, by omega, rfl, by go_num, HXX, HE⟩
      · have HE : Hid (maxFrom ages m (c.drop (k + 1)) = youngL ages c) := by have := HT1.out; rw [max_no _ hgt] at this; exact this
        have hng := cmp_not hgt
        generalize hz : Go.Lib.compareInt (ageOf ages x) (ageOf ages m) = z at hng
        have HZ := Lib.hid hz
        clear hgt HT1 hz
        go_wp2_with (first | (go_at_call 57; refine (older_any _ _ ages _ _ bb (HV.out.below (by (repeat (first | exact Below.refl _ _ | assumption | refine nw_more ?_ _ _ | refine nw_alloc ?_ _ | refine nw_drew ?_ | refine nw_drewN ?_ _ | refine nw_set ?_ (by first | (simp; done) | (simp; omega) | omega) _)))) HXX.out HX.out (by simp [go_sem, hbb]) (by simp [go_sem, hbb, hcc])).mono ?_; rw [HZ.out]; (rintro e w' ⟨rfl, hb⟩; obtain ⟨n, es, rfl⟩ := below_more hb; clear hb)))
        go_roundg (c.length + 1 - k - 1)
        case measure => omega
        case rel => exact ⟨below_more (by (repeat (first | exact Below.refl _ _ | assumption | refine nw_more ?_ _ _ | refine nw_alloc ?_ _ | refine nw_drew ?_ | refine nw_drewN ?_ _ | refine nw_set ?_ (by first | (simp; done) | (simp; omega) | omega) _))), k + 1, m, by omega, by omega, by omega, rfl, by go_num, HX, HE⟩
    · have e : k = c.length := by omega
      have HE : Hid (m = youngL ages c) := by have := HT.out; rw [e, List.drop_length] at this; exact this
      clear e HT
      go_wp2
      go_ret
      exact ⟨ret_int HE.out, by (repeat (first | exact Below.refl _ _ | assumption | refine nw_more ?_ _ _ | refine nw_alloc ?_ _ | refine nw_drew ?_ | refine nw_drewN ?_ _ | refine nw_set ?_ (by first | (simp; done) | (simp; omega) | omega) _))⟩

set_option maxHeartbeats 400000 in
theorem youngest_any (w : World) (u v : Value) (c ages : List Int) (hu : IntsAt w u c) (hv : IntsAt w v ages) (hc : ∀ o ∈ c, OldIn ages o) (hp : 0 < c.length) :
    Calls Try.prog 33 #[u, v] w fun e w' => e = .returned (.int .i64 (youngL ages c)) ∧ Below w.heap.size w w' := by
  obtain ⟨vp, vc, rfl⟩ := hv.slice
  have HU := Lib.hid hu
  have HV := Lib.hid hv
  have HC := Lib.hid hc
  clear hu hv hc
  go_enter Try.func33, Try.ntmps33
  go_wp2_with (first | (go_at_call 56; refine (maxFunc_any _ _ _ c ages _ (HU.out.below (by (repeat (first | exact Below.refl _ _ | assumption | refine nw_more ?_ _ _ | refine nw_alloc ?_ _ | refine nw_drew ?_ | refine nw_drewN ?_ _ | refine nw_set ?_ (by first | (simp; done) | (simp; omega) | omega) _)))) (HV.out.below (by (repeat (first | exact Below.refl _ _ | assumption | refine nw_more ?_ _ _ | refine nw_alloc ?_ _ | refine nw_drew ?_ | refine nw_drewN ?_ _ | refine nw_set ?_ (by first | (simp; done) | (simp; omega) | omega) _)))) HC.out hp (by simp [go_sem]) (by simp [go_sem])).mono ?_; (rintro e w' ⟨rfl, hb⟩; obtain ⟨n, es, rfl⟩ := below_more hb; clear hb)))
  go_ret
  exact ⟨rfl, by (repeat (first | exact Below.refl _ _ | assumption | refine nw_more ?_ _ _ | refine nw_alloc ?_ _ | refine nw_drew ?_ | refine nw_drewN ?_ _ | refine nw_set ?_ (by first | (simp; done) | (simp; omega) | omega) _))⟩
end Go.Proofs.Ythkpeddgcglpcaa
