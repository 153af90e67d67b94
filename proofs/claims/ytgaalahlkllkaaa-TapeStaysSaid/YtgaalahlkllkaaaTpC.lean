/- Contracts: the page's own test of a tape, for one that may be; equality of what is the same. No condition. -/
import Derived.Test.YtgaalahlkllkaaaTpB
namespace Go.Proofs.Ytgaalahlkllkaaa
open Go.RowKit

set_option maxHeartbeats 4000000 in
theorem rTape_ok (w : World) (u v : Value) (S : List ByteArray) (l : List Pt) (hok : TpOk S l) (hs : SsAt w u S) (hp : PsAt w v l) :
    Calls Try.prog 9 #[.agg #[u, v]] w fun e w' => e = .returned (.bool true) ∧ Below w.heap.size w w' := by
  obtain ⟨p, c, rfl, hsl, hsc, hsa⟩ := hs.at
  obtain ⟨q, d, rfl, hpl, hpc, hpa⟩ := hp.at
  have HS := Lib.hid hsa
  have HP := Lib.hid hpa
  have HT := Lib.hid hok.txt
  have HU := Lib.hid hok.put
  have HZ : Hid ((decide (1 ≤ (S.length : Int)) && decide ((S.length : Int) ≤ 512)) = true) := Lib.hid (by have := hok.low; have := hok.top; simp; omega)
  have k1 : ¬ (2048 : Int) < (l.length : Int) := by have := hok.many; omega
  have k2 : S.length ≤ 512 := hok.top
  have k3 : l.length ≤ 2048 := hok.many
  clear hs hp hok hsa hpa
  go_enter Try.func9, Try.ntmps9
  go_wp2_with fail
  refine (between_any _ _ _ _).mono ?_
  rw [HZ.out]
  rintro e w' ⟨rfl, rfl⟩
  go_wp2_with fail
  go_loopg [3] (S.length + 1) (fun g s3 wr => (∃ n es, wr = more (w.alloc (Obj.cells #[.slice p S.length c, .slice q l.length d] 25)) n es) ∧ ∃ k : Nat, k ≤ S.length ∧ g + k = S.length + 1 ∧ s3 = .int .i64 k)
  case atStart => exact ⟨below_more (by (repeat (first | exact Below.refl _ _ | assumption | refine nw_more ?_ _ _ | refine nw_alloc ?_ _ | refine nw_drew ?_ | refine nw_drewN ?_ _ | refine nw_set ?_ (by first | (simp; done) | (simp; omega) | omega) _))), 0, Nat.zero_le _, rfl, rfl⟩
  case round =>
    obtain ⟨⟨n, es, rfl⟩, k, hk, hg, rfl⟩ := hrel
    obtain rfl : gk = S.length + 1 - k := by omega
    clear hg
    by_cases hlt : k < S.length
    · have hkl : (k : Int) < (S.length : Int) := by omega
      obtain ⟨b, off, s, rfl, hb, hc0, -, hxk, hsz⟩ := HS.out k hlt
      have h32 : (s.size : Int) = 32 := by have := HT.out s (List.mem_of_getElem? hxk); omega
      clear hxk HS HT
      go_wp2_with fail
      go_roundg (S.length + 1 - k - 1)
      case measure => omega
      case rel => exact ⟨below_more (by (repeat (first | exact Below.refl _ _ | assumption | refine nw_more ?_ _ _ | refine nw_alloc ?_ _ | refine nw_drew ?_ | refine nw_drewN ?_ _ | refine nw_set ?_ (by first | (simp; done) | (simp; omega) | omega) _))), k + 1, by omega, by omega, by go_num⟩
    · have hkl : ¬ (k : Int) < (S.length : Int) := by omega
      clear HS HT
      go_wp2_with fail
      go_loopg [4] (l.length + 1) (fun g s4 wr => (∃ n es, wr = more (w.alloc (Obj.cells #[.slice p S.length c, .slice q l.length d] 25)) n es) ∧ ∃ k : Nat, k ≤ l.length ∧ g + k = l.length + 1 ∧ s4 = .int .i64 k)
      case atStart => exact ⟨below_more (by (repeat (first | exact Below.refl _ _ | assumption | refine nw_more ?_ _ _ | refine nw_alloc ?_ _ | refine nw_drew ?_ | refine nw_drewN ?_ _ | refine nw_set ?_ (by first | (simp; done) | (simp; omega) | omega) _))), 0, Nat.zero_le _, rfl, rfl⟩
      case round =>
        obtain ⟨⟨n1, es1, rfl⟩, k, hk, hg, rfl⟩ := hrel
        obtain rfl : gk = l.length + 1 - k := by omega
        clear hg
        by_cases hlt : k < l.length
        · have hkl2 : (k : Int) < (l.length : Int) := by omega
          obtain ⟨b, off, x, rfl, hb, ha0, ha1, -, hxk, hsz⟩ := HP.out k hlt
          obtain ⟨x0, x1, x2⟩ := HU.out x (List.mem_of_getElem? hxk)
          obtain ⟨xi, xs⟩ := x
          dsimp only at ha0 ha1 x0 x1 x2
          have h32 : (xs.size : Int) = 32 := by omega
          have HN : Hid ((decide (0 ≤ xi) && decide (xi ≤ IntKind.i64.wrap ((S.length : Int) - 1))) = true) := Lib.hid (by rw [IntWalk.i64_in _ (by omega)]; simp; omega)
          clear hxk HP x0 x1 x2 HU
          go_wp2_with fail
          (refine wp_region_quiet_more (by kernel_rfl) (by kernel_rfl) ?_; (repeat (first | go_big_quiet_skip | quiet_step ((first | (go_at_call 22; exact Calls.more_same_bool true HN.out (rnum_any _ _ _)))))); refine wpQuiet_nil ?_; intro _ hw'; obtain ⟨⟨nq, esq⟩, hw''⟩ := hw'; subst hw''; dsimp only)
          go_wp2_with fail
          go_roundg (l.length + 1 - k - 1)
          case measure => omega
          case rel => exact ⟨below_more (by (repeat (first | exact Below.refl _ _ | assumption | refine nw_more ?_ _ _ | refine nw_alloc ?_ _ | refine nw_drew ?_ | refine nw_drewN ?_ _ | refine nw_set ?_ (by first | (simp; done) | (simp; omega) | omega) _))), k + 1, by omega, by omega, by go_num⟩
        · have hkl2 : ¬ (k : Int) < (l.length : Int) := by omega
          clear HP
          go_wp2_with fail
          go_ret
          exact ⟨rfl, by (repeat (first | exact Below.refl _ _ | assumption | refine nw_more ?_ _ _ | refine nw_alloc ?_ _ | refine nw_drew ?_ | refine nw_drewN ?_ _ | refine nw_set ?_ (by first | (simp; done) | (simp; omega) | omega) _))⟩

set_option maxHeartbeats 1000000 in
theorem eqStrings_same (w : World) (v1 v2 : Value) (l : List ByteArray) (h1 : SsAt w v1 l) (h2 : SsAt w v2 l) :
    Calls Try.prog 11 #[v1, v2] w fun e w' => e = .returned (.bool true) ∧ Below w.heap.size w w' := by
  obtain ⟨p1, c1, rfl, hl, hc1, ht1⟩ := h1.at
  obtain ⟨p2, c2, rfl, -, hc2, ht2⟩ := h2.at
  have H1 := Lib.hid ht1
  have H2 := Lib.hid ht2
  clear h1 h2 ht1 ht2
  go_enter Try.func11, Try.ntmps11
  go_wp2
  go_loopg [5] (l.length + 1) (fun g s5 wr => (∃ n es, wr = more w n es) ∧ ∃ k : Nat, k ≤ l.length ∧ g + k = l.length + 1 ∧ s5 = .int .i64 k)
  case atStart => exact ⟨below_more (Below.refl _ _), 0, Nat.zero_le _, rfl, rfl⟩
  case round =>
    obtain ⟨⟨n, es, rfl⟩, k, hk, hg, rfl⟩ := hrel
    obtain rfl : gk = l.length + 1 - k := by omega
    clear hg
    by_cases hlt : k < l.length
    · obtain ⟨b, off, x, rfl, hb, a0, -, hx, -⟩ := H1.out k hlt
      obtain ⟨b', off', x', rfl, hb', d0, -, hx', -⟩ := H2.out k hlt
      obtain rfl : x' = x := by rw [hx] at hx'; exact (Option.some.inj hx').symm
      have hlt2 : (k : Int) < (l.length : Int) := by omega
      clear H1 H2 hx hx'
      go_wp2_with fail
      (refine wp_region_quiet_more (by kernel_rfl) (by kernel_rfl) ?_; (repeat (first | go_big_quiet_skip | quiet_step ((first | fail)))); refine wpQuiet_nil ?_; intro _ hw'; obtain ⟨⟨nq, esq⟩, hw''⟩ := hw'; subst hw''; dsimp only)
      go_wp2
      go_roundg (l.length + 1 - k - 1)
      case measure => omega
      case rel => exact ⟨below_more (by (repeat (first | exact Below.refl _ _ | assumption | refine nw_more ?_ _ _ | refine nw_alloc ?_ _ | refine nw_drew ?_ | refine nw_drewN ?_ _ | refine nw_set ?_ (by first | (simp; done) | (simp; omega) | omega) _))), k + 1, by omega, by omega, by go_num⟩
    · clear H1 H2
      go_wp2
      go_ret
      exact ⟨rfl, by (repeat (first | exact Below.refl _ _ | assumption | refine nw_more ?_ _ _ | refine nw_alloc ?_ _ | refine nw_drew ?_ | refine nw_drewN ?_ _ | refine nw_set ?_ (by first | (simp; done) | (simp; omega) | omega) _))⟩
theorem pt_neq_self (i : Int) (s : ByteArray) (w : World) : (binOp .neq 40 (.agg #[.int .i64 i, .string s]) (.agg #[.int .i64 i, .string s])).run Try.prog w = .ok (.bool false) w := by
  simp [go_sem]
attribute [go_sem] pt_neq_self
set_option maxHeartbeats 1000000 in
theorem eqPuts_same (w : World) (v1 v2 : Value) (l : List Pt) (h1 : PsAt w v1 l) (h2 : PsAt w v2 l) :
    Calls Try.prog 25 #[v1, v2] w fun e w' => e = .returned (.bool true) ∧ Below w.heap.size w w' := by
  obtain ⟨p1, c1, rfl, hl, hc1, ht1⟩ := h1.at
  obtain ⟨p2, c2, rfl, -, hc2, ht2⟩ := h2.at
  have H1 := Lib.hid ht1
  have H2 := Lib.hid ht2
  clear h1 h2 ht1 ht2
  go_enter Try.func25, Try.ntmps25
  go_wp2
  go_loopg [5] (l.length + 1) (fun g s5 wr => (∃ n es, wr = more w n es) ∧ ∃ k : Nat, k ≤ l.length ∧ g + k = l.length + 1 ∧ s5 = .int .i64 k)
  case atStart => exact ⟨below_more (Below.refl _ _), 0, Nat.zero_le _, rfl, rfl⟩
  case round =>
    obtain ⟨⟨n, es, rfl⟩, k, hk, hg, rfl⟩ := hrel
    obtain rfl : gk = l.length + 1 - k := by omega
    clear hg
    by_cases hlt : k < l.length
    · obtain ⟨b, off, x, rfl, hb, a0, a1, -, hx, -⟩ := H1.out k hlt
      obtain ⟨b', off', x', rfl, hb', d0, d1, -, hx', -⟩ := H2.out k hlt
      obtain rfl : x' = x := by rw [hx] at hx'; exact (Option.some.inj hx').symm
      obtain ⟨xi, xs⟩ := x'
      dsimp only at a0 a1 d0 d1
      have hlt2 : (k : Int) < (l.length : Int) := by omega
      clear H1 H2 hx hx'
      go_wp2_with fail
      (refine wp_region_quiet_more (by kernel_rfl) (by kernel_rfl) ?_; (repeat (first | go_big_quiet_skip | quiet_step ((first | fail)))); refine wpQuiet_nil ?_; intro _ hw'; obtain ⟨⟨nq, esq⟩, hw''⟩ := hw'; subst hw''; dsimp only)
      go_wp2
      go_roundg (l.length + 1 - k - 1)
      case measure => omega
      case rel => exact ⟨below_more (by (repeat (first | exact Below.refl _ _ | assumption | refine nw_more ?_ _ _ | refine nw_alloc ?_ _ | refine nw_drew ?_ | refine nw_drewN ?_ _ | refine nw_set ?_ (by first | (simp; done) | (simp; omega) | omega) _))), k + 1, by omega, by omega, by go_num⟩
    · clear H1 H2
      go_wp2
      go_ret
      exact ⟨rfl, by (repeat (first | exact Below.refl _ _ | assumption | refine nw_more ?_ _ _ | refine nw_alloc ?_ _ | refine nw_drew ?_ | refine nw_drewN ?_ _ | refine nw_set ?_ (by first | (simp; done) | (simp; omega) | omega) _))⟩
set_option maxHeartbeats 1000000 in
theorem eqTape_same (w : World) (u1 v1 u2 v2 : Value) (S : List ByteArray) (l : List Pt) (h1 : SsAt w u1 S) (g1 : PsAt w v1 l) (h2 : SsAt w u2 S) (g2 : PsAt w v2 l) :
    Calls Try.prog 12 #[.agg #[u1, v1], .agg #[u2, v2]] w fun e w' => e = .returned (.bool true) ∧ Below w.heap.size w w' := by
  obtain ⟨p1, c1, rfl, -⟩ := h1.slice
  obtain ⟨p2, c2, rfl, -⟩ := h2.slice
  obtain ⟨q1, d1, rfl, -⟩ := g1.slice
  obtain ⟨q2, d2, rfl, -⟩ := g2.slice
  have H1 := Lib.hid h1
  have H2 := Lib.hid h2
  have G1 := Lib.hid g1
  have G2 := Lib.hid g2
  clear h1 h2 g1 g2
  go_enter Try.func12, Try.ntmps12
  go_wp2_with (first | (go_at_call 11; refine (eqStrings_same _ _ _ S (H1.out.below (by (repeat (first | exact Below.refl _ _ | assumption | refine nw_more ?_ _ _ | refine nw_alloc ?_ _ | refine nw_drew ?_ | refine nw_drewN ?_ _ | refine nw_set ?_ (by first | (simp; done) | (simp; omega) | omega) _)))) (H2.out.below (by (repeat (first | exact Below.refl _ _ | assumption | refine nw_more ?_ _ _ | refine nw_alloc ?_ _ | refine nw_drew ?_ | refine nw_drewN ?_ _ | refine nw_set ?_ (by first | (simp; done) | (simp; omega) | omega) _))))).mono ?_; (rintro e w' ⟨rfl, hb⟩; obtain ⟨n, es, rfl⟩ := below_more hb; clear hb)) | (go_at_call 25; refine (eqPuts_same _ _ _ l (G1.out.below (by (repeat (first | exact Below.refl _ _ | assumption | refine nw_more ?_ _ _ | refine nw_alloc ?_ _ | refine nw_drew ?_ | refine nw_drewN ?_ _ | refine nw_set ?_ (by first | (simp; done) | (simp; omega) | omega) _)))) (G2.out.below (by (repeat (first | exact Below.refl _ _ | assumption | refine nw_more ?_ _ _ | refine nw_alloc ?_ _ | refine nw_drew ?_ | refine nw_drewN ?_ _ | refine nw_set ?_ (by first | (simp; done) | (simp; omega) | omega) _))))).mono ?_; (rintro e w' ⟨rfl, hb⟩; obtain ⟨n, es, rfl⟩ := below_more hb; clear hb)))
  go_ret
  exact ⟨rfl, by (repeat (first | exact Below.refl _ _ | assumption | refine nw_more ?_ _ _ | refine nw_alloc ?_ _ | refine nw_drew ?_ | refine nw_drewN ?_ _ | refine nw_set ?_ (by first | (simp; done) | (simp; omega) | omega) _))⟩
end Go.Proofs.Ytgaalahlkllkaaa
