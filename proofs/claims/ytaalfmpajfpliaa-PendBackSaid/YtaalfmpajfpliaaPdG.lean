/- Contracts: the page's own: what may be pending; lists held against each other; what wakes. No condition. -/
import Derived.Test.YtaalfmpajfpliaaPdF
namespace Go.Proofs.Ytaalfmpajfpliaa
open Go.RowKit

/-- The number behind which the j-th stands. -/
def PrevI (ms : List Int) (j : Nat) (a : Int) : Prop := 0 ≤ a ∧ (j = 0 → a = 0) ∧ ∀ i, j = i + 1 → ms[i]? = some a
theorem PrevI.zero (ms : List Int) : PrevI ms 0 0 := ⟨Int.le_refl _, fun _ => rfl, fun i h => absurd h.symm (Nat.succ_ne_zero i)⟩
theorem PrevI.next {ms : List Int} {j : Nat} {x : Int} (h : ms[j]? = some x) (h0 : 0 ≤ x) : PrevI ms (j + 1) x :=
  ⟨h0, fun h => absurd h (Nat.succ_ne_zero j), fun i hi => by rw [← Nat.succ.inj hi]; exact h⟩
theorem PrevI.at0 {ms : List Int} {a : Int} (h : PrevI ms 0 a) : a = 0 := h.2.1 rfl
theorem PrevI.at1 {ms : List Int} {i : Nat} {a y : Int} (h : PrevI ms (i + 1) a) (hy : ms[i]? = some y) : a = y := by
  have := h.2.2 i rfl; rw [hy] at this; exact (Option.some.inj this).symm

set_option maxHeartbeats 4000000 in
theorem rPend_any (w : World) (u v : Value) (l : List Wr) (ms : List Int) (hw : WsAt w u l) (hm : IntsAt w v ms) :
    Calls Try.prog 5 #[.agg #[u, v]] w fun e w' => e = .returned (.bool (pOk l ms)) ∧ Below w.heap.size w w' := by
  obtain ⟨p, cap, rfl, hl, hcap, ht⟩ := hw.at
  obtain ⟨q, qc, rfl, hml, hmt⟩ := hm.at
  have H := Lib.hid ht
  have HM := Lib.hid hmt
  clear hw hm ht hmt
  by_cases h1 : l.length ≤ 12
  case neg =>
    have k1 : ¬ (l.length : Int) ≤ 12 := by omega
    have k2 : (12 : Int) < (l.length : Int) := by omega
    clear H HM
    go_enter Try.func5, Try.ntmps5
    go_wp2
    go_ret
    exact ⟨ret_bool (by unfold pOk; rw [decide_eq_false h1]; rfl), by (repeat (first | exact Below.refl _ _ | assumption | refine nw_more ?_ _ _ | refine nw_alloc ?_ _ | refine nw_drew ?_ | refine nw_drewN ?_ _ | refine nw_set ?_ (by first | (simp; done) | (simp; omega) | omega) _))⟩
  case pos =>
  have k1 : ¬ (12 : Int) < (l.length : Int) := by omega
  by_cases h2 : ms.length ≤ 6
  case neg =>
    have k2 : (6 : Int) < (ms.length : Int) := by omega
    clear H HM
    go_enter Try.func5, Try.ntmps5
    go_wp2
    go_ret
    exact ⟨ret_bool (by unfold pOk; rw [decide_eq_false h2]; simp), by (repeat (first | exact Below.refl _ _ | assumption | refine nw_more ?_ _ _ | refine nw_alloc ?_ _ | refine nw_drew ?_ | refine nw_drewN ?_ _ | refine nw_set ?_ (by first | (simp; done) | (simp; omega) | omega) _))⟩
  case pos =>
  have k2 : ¬ (6 : Int) < (ms.length : Int) := by omega
  have HP : Hid (pOk l ms = (l.all wOk && mOk l.length 0 ms)) := Lib.hid (by unfold pOk; rw [decide_eq_true h1, decide_eq_true h2]; rfl)
  generalize hR : pOk l ms = R at HP ⊢
  generalize hA : l.all wOk = A at HP
  have HA0 := Lib.hid hA
  clear hR hA
  go_enter Try.func5, Try.ntmps5
  go_wp2_with fail
  go_loopg [3] (l.length + 1) (fun g s3 wr => (∃ n es, wr = more (w.alloc (Obj.cells #[.slice p l.length cap, .slice q ms.length qc] 25)) n es) ∧ ∃ (k : Nat), k ≤ l.length ∧ g + k = l.length + 1 ∧ s3 = .int .i64 k ∧ Hid ((l.drop k).all wOk = A))
  case atStart => exact ⟨below_more (Below.refl _ _), 0, Nat.zero_le _, rfl, rfl, HA0⟩
  case round =>
    obtain ⟨⟨n, es, rfl⟩, k, hk, hg, rfl, HT⟩ := hrel
    obtain rfl : gk = l.length + 1 - k := by omega
    clear hg
    by_cases hlt : k < l.length
    · obtain ⟨b, off, x, rfl, hb, hc0, hc1, hc2, hc3, hd, hxk, hsk, hsz⟩ := H.out k hlt
      obtain ⟨t, kk, s, g⟩ := x
      dsimp only at hc0 hc1 hc2 hc3 hsk hsz
      have HT' : Hid ((wOk ⟨t, kk, s, g⟩ && (l.drop (k + 1)).all wOk) = A) := Lib.hid (by have := HT.out; rw [hd, List.all_cons] at this; exact this)
      have hkl : (k : Int) < (l.length : Int) := by omega
      clear hd HT hxk H HM
      cases hv : wOk ⟨t, kk, s, g⟩
      · have HE : Hid (R = false) := Lib.hid (by rw [HP.out, ← HT'.out, hv]; rfl)
        have HV := Lib.hid hv
        clear hv HT'
        go_wp2_with (first | (go_at_call 15; refine (rWrite_any _ _ _ _ _ hsk hsz).mono ?_; rw [HV.out]; (rintro e w' ⟨rfl, hb⟩; obtain ⟨n, es, rfl⟩ := below_more hb; clear hb)))
        go_ret
        exact ⟨ret_bool HE.out.symm, by (repeat (first | exact Below.refl _ _ | assumption | refine nw_more ?_ _ _ | refine nw_alloc ?_ _ | refine nw_drew ?_ | refine nw_drewN ?_ _ | refine nw_set ?_ (by first | (simp; done) | (simp; omega) | omega) _))⟩
      · have HE : Hid ((l.drop (k + 1)).all wOk = A) := Lib.hid (by rw [← HT'.out, hv]; rfl)
        have HV := Lib.hid hv
        clear hv HT'
        go_wp2_with (first | (go_at_call 15; refine (rWrite_any _ _ _ _ _ hsk hsz).mono ?_; rw [HV.out]; (rintro e w' ⟨rfl, hb⟩; obtain ⟨n, es, rfl⟩ := below_more hb; clear hb)))
        go_roundg (l.length + 1 - k - 1)
        case measure => omega
        case rel => exact ⟨below_more (by (repeat (first | exact Below.refl _ _ | assumption | refine nw_more ?_ _ _ | refine nw_alloc ?_ _ | refine nw_drew ?_ | refine nw_drewN ?_ _ | refine nw_set ?_ (by first | (simp; done) | (simp; omega) | omega) _))), k + 1, by omega, by omega, by go_num, HE⟩
    · have e : k = l.length := by omega
      have hkl : ¬ (k : Int) < (l.length : Int) := by omega
      have HE : Hid (R = mOk l.length 0 ms) := Lib.hid (by have := HT.out; rw [e, List.drop_length] at this; rw [HP.out, ← this]; rfl)
      clear HT H HP HA0
      go_wp2_with fail
      go_loopg [4] (ms.length + 1) (fun g s4 wr => (∃ n es, wr = more (w.alloc (Obj.cells #[.slice p l.length cap, .slice q ms.length qc] 25)) n es) ∧ ∃ (j : Nat), j ≤ ms.length ∧ g + j = ms.length + 1 ∧ s4 = .int .i64 j ∧ Hid (∃ a : Int, PrevI ms j a ∧ R = mOk l.length a (ms.drop j)))
      case atStart => exact ⟨below_more (by (repeat (first | exact Below.refl _ _ | assumption | refine nw_more ?_ _ _ | refine nw_alloc ?_ _ | refine nw_drew ?_ | refine nw_drewN ?_ _ | refine nw_set ?_ (by first | (simp; done) | (simp; omega) | omega) _))), 0, Nat.zero_le _, rfl, rfl, Lib.hid ⟨0, PrevI.zero ms, HE.out⟩⟩
      case round =>
        clear HE hlt e hk hkl
        obtain ⟨⟨n, es, rfl⟩, j, hj, hg, rfl, HT⟩ := hrel
        obtain rfl : gk = ms.length + 1 - j := by omega
        clear hg
        by_cases hlt : j < ms.length
        · obtain ⟨b, off, x, rfl, hb, hc0, hd, hxk⟩ := HM.out j hlt
          have hjl : (j : Int) < (ms.length : Int) := by omega
          by_cases hr : 0 ≤ x ∧ x ≤ (l.length : Int)
          · have HN : Hid ((decide (0 ≤ x) && decide (x ≤ (l.length : Int))) = true) := Lib.hid (by rw [decide_eq_true hr.1, decide_eq_true hr.2]; rfl)
            by_cases hj0 : j = 0
            · subst hj0
              have HE : Hid (∃ a : Int, PrevI ms 1 a ∧ R = mOk l.length a (ms.drop 1)) := Lib.hid (by
                obtain ⟨a, ha, h4⟩ := HT.out
                refine ⟨x, PrevI.next hxk hr.1, ?_⟩
                rw [h4, hd, ha.at0, mOk, decide_eq_true hr.1, decide_eq_true hr.2]; rfl)
              have hc1 : w.cell? ⟨b, off, none⟩ = some (.int .i64 x) := hc0
              clear hd hxk HT hr
              go_wp2_with fail
              (refine wp_region_quiet_more (by kernel_rfl) (by kernel_rfl) ?_; (repeat (first | go_big_quiet_skip | quiet_step ((first | (go_at_call 16; exact Calls.more_same_bool true HN.out (numB_any _ _ _)))))); refine wpQuiet_nil ?_; intro _ hw'; obtain ⟨⟨nq, esq⟩, hw''⟩ := hw'; subst hw''; dsimp only)
              go_wp2
              go_roundg (ms.length + 1 - 0 - 1)
              case measure => omega
              case rel => exact ⟨below_more (by (repeat (first | exact Below.refl _ _ | assumption | refine nw_more ?_ _ _ | refine nw_alloc ?_ _ | refine nw_drew ?_ | refine nw_drewN ?_ _ | refine nw_set ?_ (by first | (simp; done) | (simp; omega) | omega) _))), 1, by omega, by omega, by go_num, HE⟩
            · obtain ⟨i, HJ⟩ : ∃ i, Hid (j = i + 1) := ⟨j - 1, Lib.hid (by omega)⟩
              have hij : i < ms.length := by have := HJ.out; omega
              obtain ⟨b', off', y, e9, hb', hc1, -, hyk⟩ := HM.out i hij
              simp only [Option.some.injEq, Addr.mk.injEq, and_true] at e9
              obtain ⟨rfl, rfl⟩ := e9
              have hji : (j : Int) - 1 = (i : Int) := by have := HJ.out; omega
              have hwr : IntKind.i64.wrap (i : Int) = (i : Int) := IntWalk.i64_in _ (by omega)
              have hpos : 0 < j := by omega
              have hpos1 : (0 : Int) < (j : Int) := by omega
              have hpos2 : decide ((0 : Int) < (j : Int)) = true := decide_eq_true hpos1
              have hil2 : (i : Int) < (ms.length : Int) := by omega
              by_cases hxy : x < y
              · have HE : Hid (R = false) := Lib.hid (by
                  obtain ⟨a, ha, h4⟩ := HT.out
                  rw [HJ.out] at ha
                  obtain rfl := ha.at1 hyk
                  rw [h4, hd, mOk, decide_eq_false (by omega)]; rfl)
                clear hd hxk hyk HT hr hij hj0
                go_wp2_with fail
                (refine wp_region_quiet_more (by kernel_rfl) (by kernel_rfl) ?_; (repeat (first | go_big_quiet_skip | quiet_step ((first | (go_at_call 16; exact Calls.more_same_bool true HN.out (numB_any _ _ _)))))); refine wpQuiet_nil ?_; intro _ hw'; obtain ⟨⟨nq, esq⟩, hw''⟩ := hw'; subst hw''; dsimp only)
                go_wp2
                go_ret
                exact ⟨ret_bool HE.out.symm, by (repeat (first | exact Below.refl _ _ | assumption | refine nw_more ?_ _ _ | refine nw_alloc ?_ _ | refine nw_drew ?_ | refine nw_drewN ?_ _ | refine nw_set ?_ (by first | (simp; done) | (simp; omega) | omega) _))⟩
              · have HE : Hid (∃ a : Int, PrevI ms (j + 1) a ∧ R = mOk l.length a (ms.drop (j + 1))) := Lib.hid (by
                  obtain ⟨a, ha, h4⟩ := HT.out
                  rw [HJ.out] at ha
                  obtain rfl := ha.at1 hyk
                  refine ⟨x, PrevI.next hxk hr.1, ?_⟩
                  rw [h4, hd, mOk, decide_eq_true (p := a ≤ x) (by omega), decide_eq_true hr.2]; rfl)
                clear hd hxk hyk HT hr hij hj0
                go_wp2_with fail
                (refine wp_region_quiet_more (by kernel_rfl) (by kernel_rfl) ?_; (repeat (first | go_big_quiet_skip | quiet_step ((first | (go_at_call 16; exact Calls.more_same_bool true HN.out (numB_any _ _ _)))))); refine wpQuiet_nil ?_; intro _ hw'; obtain ⟨⟨nq, esq⟩, hw''⟩ := hw'; subst hw''; dsimp only)
                go_wp2
                go_roundg (ms.length + 1 - j - 1)
                case measure => omega
                case rel => exact ⟨below_more (by (repeat (first | exact Below.refl _ _ | assumption | refine nw_more ?_ _ _ | refine nw_alloc ?_ _ | refine nw_drew ?_ | refine nw_drewN ?_ _ | refine nw_set ?_ (by first | (simp; done) | (simp; omega) | omega) _))), j + 1, by omega, by omega, by go_num, HE⟩
          · have HE : Hid (R = false) := Lib.hid (by
              obtain ⟨a, ha, h4⟩ := HT.out
              have ha0 := ha.1
              rw [h4, hd, mOk]
              by_cases hax : a ≤ x
              · rw [decide_eq_false (p := x ≤ (l.length : Int)) (by omega)]; simp
              · rw [decide_eq_false hax]; rfl)
            have HN : Hid ((decide (0 ≤ x) && decide (x ≤ (l.length : Int))) = false) := Lib.hid (by
              by_cases h0 : 0 ≤ x
              · rw [decide_eq_false (p := x ≤ (l.length : Int)) (by omega)]; simp
              · rw [decide_eq_false h0]; rfl)
            clear hd hxk HT hr
            go_wp2_with fail
            (refine wp_region_quiet_more (by kernel_rfl) (by kernel_rfl) ?_; (repeat (first | go_big_quiet_skip | quiet_step ((first | (go_at_call 16; exact Calls.more_same_bool false HN.out (numB_any _ _ _)))))); refine wpQuiet_nil ?_; intro _ hw'; obtain ⟨⟨nq, esq⟩, hw''⟩ := hw'; subst hw''; dsimp only)
            go_wp2
            go_ret
            exact ⟨ret_bool HE.out.symm, by (repeat (first | exact Below.refl _ _ | assumption | refine nw_more ?_ _ _ | refine nw_alloc ?_ _ | refine nw_drew ?_ | refine nw_drewN ?_ _ | refine nw_set ?_ (by first | (simp; done) | (simp; omega) | omega) _))⟩
        · have e : j = ms.length := by omega
          have hjl : ¬ (j : Int) < (ms.length : Int) := by omega
          have HE : Hid (R = true) := Lib.hid (by obtain ⟨a, -, h4⟩ := HT.out; rw [h4, e, List.drop_length]; rfl)
          clear HT HM
          go_wp2
          go_ret
          exact ⟨ret_bool HE.out.symm, by (repeat (first | exact Below.refl _ _ | assumption | refine nw_more ?_ _ _ | refine nw_alloc ?_ _ | refine nw_drew ?_ | refine nw_drewN ?_ _ | refine nw_set ?_ (by first | (simp; done) | (simp; omega) | omega) _))⟩

theorem w_neq_self (t : Int) (k s : ByteArray) (g : Bool) (w : World) : (binOp .neq 39 (.agg #[.int .i64 t, .string k, .string s, .bool g]) (.agg #[.int .i64 t, .string k, .string s, .bool g])).run Try.prog w = .ok (.bool false) w := by
  simp [go_sem]
attribute [go_sem] w_neq_self

set_option maxHeartbeats 1000000 in
theorem eqWrites_same (w : World) (v1 v2 : Value) (l : List Wr) (h1 : WsAt w v1 l) (h2 : WsAt w v2 l) :
    Calls Try.prog 11 #[v1, v2] w fun e w' => e = .returned (.bool true) ∧ Below w.heap.size w w' := by
  obtain ⟨p1, c1, rfl, hl, hc1, ht1⟩ := h1.at
  obtain ⟨p2, c2, rfl, -, hc2, ht2⟩ := h2.at
  have H1 := Lib.hid ht1
  have H2 := Lib.hid ht2
  clear h1 h2 ht1 ht2
  go_enter Try.func11, Try.ntmps11
  go_wp2
  go_loopg [5] (l.length + 1) (fun g s5 wr => (∃ n es, wr = more w n es) ∧ ∃ k : Nat, k ≤ l.length ∧ g + k = l.length + 1 ∧ s5 = .int .i64 k)
  case atStart => exact ⟨below_more (Below.refl _ _), 0, Nat.zero_le _, rfl, rfl⟩
  case round =>
    obtain ⟨⟨n, es, rfl⟩, k, hk, hg, rfl⟩ := hrel
    obtain rfl : gk = l.length + 1 - k := by omega
    clear hg
    by_cases hlt : k < l.length
    · obtain ⟨b, off, x, rfl, hb, a0, a1, a2, a3, -, hx, -⟩ := H1.out k hlt
      obtain ⟨b', off', x', rfl, hb', d0, d1, d2, d3, -, hx', -⟩ := H2.out k hlt
      obtain rfl : x' = x := by rw [hx] at hx'; exact (Option.some.inj hx').symm
      obtain ⟨t, kk, s, g⟩ := x'
      dsimp only at a0 a1 a2 a3 d0 d1 d2 d3
      have hlt2 : (k : Int) < (l.length : Int) := by omega
      clear H1 H2 hx hx'
      go_wp2_with fail
      (refine wp_region_quiet_more (by kernel_rfl) (by kernel_rfl) ?_; (repeat (first | go_big_quiet_skip | quiet_step ((first | fail)))); refine wpQuiet_nil ?_; intro _ hw'; obtain ⟨⟨nq, esq⟩, hw''⟩ := hw'; subst hw''; dsimp only)
      go_wp2
      go_roundg (l.length + 1 - k - 1)
      case measure => omega
      case rel => exact ⟨below_more (by (repeat (first | exact Below.refl _ _ | assumption | refine nw_more ?_ _ _ | refine nw_alloc ?_ _ | refine nw_drew ?_ | refine nw_drewN ?_ _ | refine nw_set ?_ (by first | (simp; done) | (simp; omega) | omega) _))), k + 1, by omega, by omega, by go_num⟩
    · clear H1 H2
      go_wp2
      go_ret
      exact ⟨rfl, by (repeat (first | exact Below.refl _ _ | assumption | refine nw_more ?_ _ _ | refine nw_alloc ?_ _ | refine nw_drew ?_ | refine nw_drewN ?_ _ | refine nw_set ?_ (by first | (simp; done) | (simp; omega) | omega) _))⟩
set_option maxHeartbeats 1000000 in
theorem eqNumbers_same (w : World) (v1 v2 : Value) (l : List Int) (h1 : IntsAt w v1 l) (h2 : IntsAt w v2 l) :
    Calls Try.prog 23 #[v1, v2] w fun e w' => e = .returned (.bool true) ∧ Below w.heap.size w w' := by
  obtain ⟨p1, c1, rfl, hl, ht1⟩ := h1.at
  obtain ⟨p2, c2, rfl, -, ht2⟩ := h2.at
  have H1 := Lib.hid ht1
  have H2 := Lib.hid ht2
  clear h1 h2 ht1 ht2
  go_enter Try.func23, Try.ntmps23
  go_wp2
  go_loopg [5] (l.length + 1) (fun g s5 wr => (∃ n es, wr = more w n es) ∧ ∃ k : Nat, k ≤ l.length ∧ g + k = l.length + 1 ∧ s5 = .int .i64 k)
  case atStart => exact ⟨below_more (Below.refl _ _), 0, Nat.zero_le _, rfl, rfl⟩
  case round =>
    obtain ⟨⟨n, es, rfl⟩, k, hk, hg, rfl⟩ := hrel
    obtain rfl : gk = l.length + 1 - k := by omega
    clear hg
    by_cases hlt : k < l.length
    · obtain ⟨b, off, x, rfl, hb, a0, -, hx⟩ := H1.out k hlt
      obtain ⟨b', off', x', rfl, hb', d0, -, hx'⟩ := H2.out k hlt
      obtain rfl : x' = x := by rw [hx] at hx'; exact (Option.some.inj hx').symm
      have hlt2 : (k : Int) < (l.length : Int) := by omega
      clear H1 H2 hx hx'
      go_wp2_with fail
      (refine wp_region_quiet_more (by kernel_rfl) (by kernel_rfl) ?_; (repeat (first | go_big_quiet_skip | quiet_step ((first | fail)))); refine wpQuiet_nil ?_; intro _ hw'; obtain ⟨⟨nq, esq⟩, hw''⟩ := hw'; subst hw''; dsimp only)
      go_wp2
      go_roundg (l.length + 1 - k - 1)
      case measure => omega
      case rel => exact ⟨below_more (by (repeat (first | exact Below.refl _ _ | assumption | refine nw_more ?_ _ _ | refine nw_alloc ?_ _ | refine nw_drew ?_ | refine nw_drewN ?_ _ | refine nw_set ?_ (by first | (simp; done) | (simp; omega) | omega) _))), k + 1, by omega, by omega, by go_num⟩
    · clear H1 H2
      go_wp2
      go_ret
      exact ⟨rfl, by (repeat (first | exact Below.refl _ _ | assumption | refine nw_more ?_ _ _ | refine nw_alloc ?_ _ | refine nw_drew ?_ | refine nw_drewN ?_ _ | refine nw_set ?_ (by first | (simp; done) | (simp; omega) | omega) _))⟩
set_option maxHeartbeats 1000000 in
theorem eqPend_same (w : World) (u1 v1 u2 v2 : Value) (l : List Wr) (ms : List Int) (h1 : WsAt w u1 l) (h2 : WsAt w u2 l) (h3 : IntsAt w v1 ms) (h4 : IntsAt w v2 ms) :
    Calls Try.prog 13 #[.agg #[u1, v1], .agg #[u2, v2]] w fun e w' => e = .returned (.bool true) ∧ Below w.heap.size w w' := by
  obtain ⟨p1, c1, rfl, -⟩ := h1.slice
  obtain ⟨p2, c2, rfl, -⟩ := h2.slice
  obtain ⟨p3, c3, rfl, -⟩ := h3.cap
  obtain ⟨p4, c4, rfl, -⟩ := h4.cap
  have H1 := Lib.hid h1
  have H2 := Lib.hid h2
  have H3 := Lib.hid h3
  have H4 := Lib.hid h4
  clear h1 h2 h3 h4
  go_enter Try.func13, Try.ntmps13
  go_wp2_with fail
  refine (eqWrites_same _ _ _ l (H1.out.below (by (repeat (first | exact Below.refl _ _ | assumption | refine nw_more ?_ _ _ | refine nw_alloc ?_ _ | refine nw_drew ?_ | refine nw_drewN ?_ _ | refine nw_set ?_ (by first | (simp; done) | (simp; omega) | omega) _)))) (H2.out.below (by (repeat (first | exact Below.refl _ _ | assumption | refine nw_more ?_ _ _ | refine nw_alloc ?_ _ | refine nw_drew ?_ | refine nw_drewN ?_ _ | refine nw_set ?_ (by first | (simp; done) | (simp; omega) | omega) _))))).mono ?_
  (rintro e w' ⟨rfl, hb⟩; obtain ⟨n, es, rfl⟩ := below_more hb; clear hb)
  go_wp2_with fail
  refine (eqNumbers_same _ _ _ ms (H3.out.below (by (repeat (first | exact Below.refl _ _ | assumption | refine nw_more ?_ _ _ | refine nw_alloc ?_ _ | refine nw_drew ?_ | refine nw_drewN ?_ _ | refine nw_set ?_ (by first | (simp; done) | (simp; omega) | omega) _)))) (H4.out.below (by (repeat (first | exact Below.refl _ _ | assumption | refine nw_more ?_ _ _ | refine nw_alloc ?_ _ | refine nw_drew ?_ | refine nw_drewN ?_ _ | refine nw_set ?_ (by first | (simp; done) | (simp; omega) | omega) _))))).mono ?_
  (rintro e w' ⟨rfl, hb⟩; obtain ⟨n, es, rfl⟩ := below_more hb; clear hb)
  go_wp2
  go_ret
  exact ⟨rfl, by (repeat (first | exact Below.refl _ _ | assumption | refine nw_more ?_ _ _ | refine nw_alloc ?_ _ | refine nw_drew ?_ | refine nw_drewN ?_ _ | refine nw_set ?_ (by first | (simp; done) | (simp; omega) | omega) _))⟩

set_option maxHeartbeats 2000000 in
theorem wakes10_any (w : World) :
    Calls Try.prog 8 #[] w fun e w' => e = .returned (.bool true) ∧ Below w.heap.size w w' := by
  go_enter Try.func8, Try.ntmps8
  go_wp2_with fail
  refine (save_ok _ _ _ [] [] (by decide) (by decide) (WsAt.nil _ _ _) (IntsAt.zero _ _ _)).mono ?_
  rintro e w' ⟨u1, v1, rfl, hu1, hv1, hb⟩
  obtain ⟨p1, c1, rfl⟩ := hu1.slice
  obtain ⟨q1, d1, rfl⟩ := hv1.slice
  have HU1 := Lib.hid hu1
  have HV1 := Lib.hid hv1
  obtain ⟨n1, es1, rfl⟩ := below_more hb
  clear hb hu1 hv1
  unfold pdThree
  go_wp2_with fail
  refine (put_ok _ _ _ [] [0] _ _ _ _ (by decide) (by decide) (by decide) (by decide) (by decide) ((OwnW.ok (ms := [0]) HU1.out (by decide)).below (by (repeat (first | exact Below.refl _ _ | assumption | refine nw_more ?_ _ _ | refine nw_alloc ?_ _ | refine nw_drew ?_ | refine nw_drewN ?_ _ | refine nw_set ?_ (by first | (simp; done) | (simp; omega) | omega) _)))) ((OwnN.ok (l := []) HV1.out (by decide)).below (by (repeat (first | exact Below.refl _ _ | assumption | refine nw_more ?_ _ _ | refine nw_alloc ?_ _ | refine nw_drew ?_ | refine nw_drewN ?_ _ | refine nw_set ?_ (by first | (simp; done) | (simp; omega) | omega) _))))).mono ?_
  rintro e w' ⟨u2, v2, rfl, hu2, hv2, hb⟩
  obtain ⟨p2, c2, rfl⟩ := hu2.slice
  obtain ⟨q2, d2, rfl⟩ := hv2.slice
  have HU2 := Lib.hid hu2
  have HV2 := Lib.hid hv2
  obtain ⟨n2, es2, rfl⟩ := below_more hb
  clear hb hu2 hv2
  unfold pdTwo
  go_wp2_with fail
  refine (return_ok _ _ _ [⟨0, { data := #[97] }, { data := #[] }, false⟩] [0] 0 0 rfl (by decide) (by decide) (OwnW.ok (B := 0) (ms := [0]) (own_swap HU2.out (by simp) (Nat.zero_le _)) (by decide)) (OwnN.ok (B := 0) (l := []) (own_swap HV2.out (by simp) (Nat.zero_le _)) (by decide))).mono ?_
  rintro e w' ⟨u3, v3, rfl, hu3, hv3, hb⟩
  obtain ⟨p3, c3, rfl⟩ := OwnW.slice hu3
  obtain ⟨q3, d3, rfl⟩ := OwnN.slice hv3
  obtain ⟨n3, es3, rfl⟩ := below_more hb
  clear hb hu3 hv3
  unfold pdTwo
  go_wp2_with (first | (go_at_call 7; refine (num10_any _ _).mono ?_; rintro e w' ⟨rfl, rfl⟩))
  go_ret
  exact ⟨rfl, by (repeat (first | exact Below.refl _ _ | assumption | refine nw_more ?_ _ _ | refine nw_alloc ?_ _ | refine nw_drew ?_ | refine nw_drewN ?_ _ | refine nw_set ?_ (by first | (simp; done) | (simp; omega) | omega) _))⟩
end Go.Proofs.Ytaalfmpajfpliaa
