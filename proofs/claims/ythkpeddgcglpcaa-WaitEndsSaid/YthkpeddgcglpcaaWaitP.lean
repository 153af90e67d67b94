/- Contract of the page's own Ages, of ages above 0, each another. -/
import Derived.Test.YthkpeddgcglpcaaWaitN
import Derived.Test.YthkpeddgcglpcaaWaitO
namespace Go.Proofs.Ythkpeddgcglpcaa
open Go.RowKit

/-- Ages above 0, each another. -/
def Unlike (a : List Int) : Prop := (∀ (i : Nat) (x : Int), a[i]? = some x → 0 < x) ∧ ∀ (i j : Nat) (x y : Int), j < i → a[i]? = some x → a[j]? = some y → y ≠ x
theorem all_go {f : Int → Bool} {x : Int} {l r : List Int} {k : Nat} (h : l.drop k = x :: r) (hx : f x = true) : (l.drop k).all f = r.all f := by rw [h, List.all_cons, hx, Bool.true_and]
theorem all_no {f : Int → Bool} {x : Int} {l r : List Int} {k : Nat} (h : l.drop k = x :: r) (hx : f x = false) : (l.drop k).all f = false := by rw [h, List.all_cons, hx, Bool.false_and]
def inAges (n : Nat) (x : Int) : Bool := numB x ((n : Int) - 1)

set_option maxRecDepth 100000 in
set_option maxHeartbeats 2000000 in
theorem refAges_any (w : World) (v u : Value) (ages l : List Int) (h : IntsAt w v ages) (hu : IntsAt w u l) (ha : Unlike ages) (h1 : 1 ≤ ages.length) :
    Calls Try.prog 10 #[v, u] w fun e w' => e = .returned (.bool (l.all (inAges ages.length))) ∧ Below w.heap.size w w' := by
  have HA := Lib.hid ha
  obtain ⟨p, cap, rfl, hl, ht⟩ := h.at
  have H := Lib.hid ht
  obtain ⟨q, qcap, rfl, hql, hqt⟩ := hu.at
  have HQ := Lib.hid hqt
  clear h hu ha ht hqt
  go_enter Try.func10, Try.ntmps10
  go_wp2
  go_loopg [5] (ages.length + 1) (fun g s5 wr => (∃ n es, wr = more w n es) ∧ ∃ k : Nat, k ≤ ages.length ∧ g + k = ages.length + 1 ∧ s5 = .int .i64 k)
  case atStart => exact ⟨below_more (Below.refl _ _), 0, Nat.zero_le _, rfl, rfl⟩
  case round =>
    obtain ⟨⟨n, es, rfl⟩, k, hk, hg, rfl⟩ := hrel
    obtain rfl : gk = ages.length + 1 - k := by omega
    clear hg
    by_cases hlt : k < ages.length
    · obtain ⟨b, off, x, rfl, hb, hc, -, hx⟩ := H.out k hlt
      have hx0 : ¬ x < 0 := by have := HA.out.1 k x hx; omega
      have hxz : ¬ x = 0 := by have := HA.out.1 k x hx; omega
      have HX := Lib.hid hx
      clear hx
      go_wp2_with fail
      go_loopg [6] (k + 1) (fun g s6 wr => (∃ n es, wr = more w n es) ∧ ∃ j : Nat, j ≤ k ∧ g + j = k + 1 ∧ s6 = .int .i64 j)
      case atStart => exact ⟨⟨n, es, rfl⟩, 0, Nat.zero_le _, rfl, rfl⟩
      case round =>
        obtain ⟨⟨n, es, rfl⟩, j, hj, hg, rfl⟩ := hrel
        obtain rfl : gk = k + 1 - j := by omega
        clear hg
        by_cases hlt2 : j < k
        · obtain ⟨b', off', y, e', -, hcy, -, hy⟩ := H.out j (by omega)
          obtain ⟨rfl, rfl⟩ : b = b' ∧ off = off' := by simpa using e'
          have hne : ¬ y = x := HA.out.2 k j x y hlt2 HX.out hy
          have hne1 : (y == x) = false := by simpa using hne
          have hxz1 : (x == 0) = false := by simpa using hxz
          clear e' hy
          have i1 : (0 : Int) ≤ (k : Int) := by omega
          have i2 : (k : Int) < (ages.length : Int) := by omega
          have i3 : (0 : Int) ≤ (j : Int) := by omega
          have i4 : (j : Int) < (ages.length : Int) := by omega
          go_wp2_with fail
          (refine wp_region_quiet_more (by kernel_rfl) (by kernel_rfl) ?_; (repeat (first | go_big_quiet_skip | quiet_step ((first | fail)))); refine wpQuiet_nil ?_; intro _ hw'; obtain ⟨⟨nq, esq⟩, hw''⟩ := hw'; subst hw''; dsimp only)
          go_wp2
          go_roundg (k + 1 - j - 1)
          case measure => omega
          case rel => exact ⟨below_more (by (repeat (first | exact Below.refl _ _ | assumption | refine nw_more ?_ _ _ | refine nw_alloc ?_ _ | refine nw_drew ?_ | refine nw_drewN ?_ _ | refine nw_set ?_ (by first | (simp; done) | (simp; omega) | omega) _))), j + 1, by omega, by omega, by go_num⟩
        · go_wp2_with fail
          go_roundg (ages.length + 1 - k - 1)
          case measure => omega
          case rel => exact ⟨below_more (by (repeat (first | exact Below.refl _ _ | assumption | refine nw_more ?_ _ _ | refine nw_alloc ?_ _ | refine nw_drew ?_ | refine nw_drewN ?_ _ | refine nw_set ?_ (by first | (simp; done) | (simp; omega) | omega) _))), k + 1, by omega, by omega, by go_num⟩
    · go_wp2_with fail
      go_loopg [7] (l.length + 1) (fun g s7 wr => (∃ n es, wr = more w n es) ∧ ∃ k : Nat, k ≤ l.length ∧ g + k = l.length + 1 ∧ s7 = .int .i64 k ∧ Hid ((l.drop k).all (inAges ages.length) = l.all (inAges ages.length)))
      case atStart => exact ⟨⟨n, es, rfl⟩, 0, Nat.zero_le _, rfl, rfl, rfl⟩
      case round =>
        obtain ⟨⟨n, es, rfl⟩, k, hk, hg, rfl, HT⟩ := hrel
        obtain rfl : gk = l.length + 1 - k := by omega
        clear hg
        by_cases hlt : k < l.length
        · obtain ⟨b, off, x, rfl, hb, hc, hd, -⟩ := HQ.out k hlt
          cases hx : inAges ages.length x
          · have HE : Hid (false = l.all (inAges ages.length)) := by have := HT.out; rw [all_no hd hx] at this; exact this
            have HN : Hid (numB x ((ages.length : Int) - 1) = false) := hx
            clear hd hx HT
            go_wp2_with (first | (go_at_call 16; refine (numB_any _ _ _).mono ?_; rw [HN.out]; rintro e w' ⟨rfl, rfl⟩))
            go_ret
            exact ⟨ret_bool HE.out, by (repeat (first | exact Below.refl _ _ | assumption | refine nw_more ?_ _ _ | refine nw_alloc ?_ _ | refine nw_drew ?_ | refine nw_drewN ?_ _ | refine nw_set ?_ (by first | (simp; done) | (simp; omega) | omega) _))⟩
          · have HE : Hid ((l.drop (k + 1)).all (inAges ages.length) = l.all (inAges ages.length)) := by have := HT.out; rw [all_go hd hx] at this; exact this
            have HN : Hid (numB x ((ages.length : Int) - 1) = true) := hx
            have hx2 : 0 ≤ x ∧ x ≤ (ages.length : Int) - 1 := by simpa [inAges, numB] using hx
            obtain ⟨x1, x2⟩ := hx2
            obtain ⟨t, rfl⟩ : ∃ t : Nat, x = t := ⟨x.toNat, by omega⟩
            obtain ⟨b2, off2, y, rfl, hb2, hcy, -, hy⟩ := H.out t (by omega)
            have hy0 : ¬ y = 0 := by have := HA.out.1 t y hy; omega
            clear hd hx HT hy
            go_wp2_with (first | (go_at_call 16; refine (numB_any _ _ _).mono ?_; rw [HN.out]; rintro e w' ⟨rfl, rfl⟩))
            go_roundg (l.length + 1 - k - 1)
            case measure => omega
            case rel => exact ⟨below_more (by (repeat (first | exact Below.refl _ _ | assumption | refine nw_more ?_ _ _ | refine nw_alloc ?_ _ | refine nw_drew ?_ | refine nw_drewN ?_ _ | refine nw_set ?_ (by first | (simp; done) | (simp; omega) | omega) _))), k + 1, by omega, by omega, by go_num, HE.out⟩
        · have e : k = l.length := by omega
          have HE : Hid (true = l.all (inAges ages.length)) := by have := HT.out; rw [e, List.drop_length] at this; exact this
          clear e HT
          go_wp2
          go_ret
          exact ⟨ret_bool HE.out, by (repeat (first | exact Below.refl _ _ | assumption | refine nw_more ?_ _ _ | refine nw_alloc ?_ _ | refine nw_drew ?_ | refine nw_drewN ?_ _ | refine nw_set ?_ (by first | (simp; done) | (simp; omega) | omega) _))⟩
end Go.Proofs.Ythkpeddgcglpcaa
