/- Contracts: where the newest version stands, what is there, what is left, how many. No condition. -/
import Derived.Test.YtkjejmikcgjnaaaChB
import Derived.Shelf.SlSortCmp.QuietGrown
namespace Go.Proofs.Ytkjejmikcgjnaaa
open Go.RowKit

theorem seenFn_at (w : World) (bl bn b off cap : Nat) (l : List Vr) (n : Int) (hbl : Lt bl w.heap.size) (hbn : Lt bn w.heap.size) (h : VsAt w (.slice (some ⟨b, off, none⟩) l.length cap) l)
    (hcl : w.cell? ⟨bl, 0, none⟩ = some (.slice (some ⟨b, off, none⟩) l.length cap)) (hcn : w.cell? ⟨bn, 0, none⟩ = some (.int .i64 n)) (i : Nat) (hi : i < l.length) (m : Nat) (es : Array Obj) :
    Calls Try.prog 31 #[.int .i64 i, .pointer (some ⟨bl, 0, none⟩), .pointer (some ⟨bn, 0, none⟩)] (more w m es) fun e w' => e = .returned (.bool (decide ((l.getD i default).c ≤ n))) ∧ Below (more w m es).heap.size (more w m es) w' := by
  have hL := h.1
  obtain ⟨-, -, p, cap', e1, -, h4⟩ := h
  simp only [Value.slice.injEq] at e1
  obtain ⟨rfl, -, rfl⟩ := e1
  obtain ⟨b', off', e, hb, hc, -, -⟩ := h4 i hi
  simp only [Option.some.injEq, Addr.mk.injEq, and_true] at e
  obtain ⟨rfl, rfl⟩ := e
  have hb' : Lt b w.heap.size := hb
  exact seenFn_any (more w m es) bl bn b off l.length cap i n _ (Nat.lt_of_lt_of_le hbl (by simp)) (Nat.lt_of_lt_of_le hbn (by simp)) (Nat.lt_of_lt_of_le hb' (by simp)) hi hL (by rw [more_cell _ _ _ _ _ hbl]; exact hcl) (by rw [more_cell _ _ _ _ _ hbn]; exact hcn) (by rw [more_cell _ _ _ _ _ hb']; exact hc)

set_option maxHeartbeats 2000000 in
theorem search_any (w : World) (bl bn b off cap : Nat) (l : List Vr) (n a : Int) (hbl : Lt bl w.heap.size) (hbn : Lt bn w.heap.size) (hok : lOk a l = true) (h : VsAt w (.slice (some ⟨b, off, none⟩) l.length cap) l)
    (hcl : w.cell? ⟨bl, 0, none⟩ = some (.slice (some ⟨b, off, none⟩) l.length cap)) (hcn : w.cell? ⟨bn, 0, none⟩ = some (.int .i64 n)) :
    Calls Try.prog 30 #[.int .i64 l.length, .func (.func 31) #[] #[.pointer (some ⟨bl, 0, none⟩), .pointer (some ⟨bn, 0, none⟩)]] w fun e w' => e = .returned (.int .i64 (seenI n l)) ∧ Below w.heap.size w w' := by
  have hL := h.1
  have HC := Lib.hid (seenFn_at w bl bn b off cap l n hbl hbn h hcl hcn)
  have HM := Lib.hid (fun i j h1 h2 h3 => seen_mono n hok i j h1 h2 h3)
  have HS := Lib.hid (fun k h1 h2 h3 => seen_is n l k h1 h2 h3)
  clear h hcl hcn hok
  generalize seenI n l = R at *
  go_enter Try.func30, Try.ntmps30
  go_wp2
  go_loopg [5, 6] l.length (fun g s5 s6 wr => ∃ (lo hi : Nat), s5 = .int .i64 lo ∧ s6 = .int .i64 hi ∧ lo ≤ hi ∧ hi ≤ l.length ∧ hi - lo ≤ g ∧ (∃ m es, wr = more w m es) ∧ Hid ((∀ t, t < lo → n < (l.getD t default).c) ∧ (∀ t, hi ≤ t → t < l.length → (l.getD t default).c ≤ n)))
  case atStart => exact ⟨0, l.length, rfl, rfl, Nat.zero_le _, Nat.le_refl _, by omega, below_more (Below.refl _ _), Lib.hid ⟨fun t ht => absurd ht (Nat.not_lt_zero _), fun t h1 h2 => by omega⟩⟩
  case round =>
    obtain ⟨lo, hi, rfl, rfl, hlh, hin, hg, ⟨m, es, rfl⟩, I⟩ := hrel
    by_cases hlt : lo < hi
    · have HC2 := Lib.hid (HC.out ((lo + hi) / 2) (by omega))
      have hq : (((lo + hi) / 2 : Nat) : Int) = ((lo : Int) + (hi : Int)) / 2 := by omega
      rw [hq] at HC2
      cases hp : decide ((l.getD ((lo + hi) / 2) default).c ≤ n)
      · have HP := Lib.hid hp
        clear hp HC
        go_wp2_with (first | (go_at_call 31; refine (HC2.out _ _).mono ?_; rw [HP.out]; (rintro e w' ⟨rfl, hb⟩; obtain ⟨n, es, rfl⟩ := below_more hb; clear hb)))
        go_roundg (hi - ((lo + hi) / 2 + 1))
        case measure => omega
        case rel =>
          have hp2 := of_decide_eq_false HP.out
          exact ⟨(lo + hi) / 2 + 1, hi, by rw [← hq]; go_num, rfl, by omega, hin, Nat.le_refl _, below_more (by (repeat (first | exact Below.refl _ _ | assumption | refine nw_more ?_ _ _ | refine nw_alloc ?_ _ | refine nw_drew ?_ | refine nw_drewN ?_ _ | refine nw_set ?_ (by first | (simp; done) | (simp; omega) | omega) _))), Lib.hid ⟨fun t ht => Int.not_le.1 fun hc => hp2 (HM.out t _ (by omega) (by omega) hc), I.out.2⟩⟩
      · have HP := Lib.hid hp
        clear hp HC
        go_wp2_with (first | (go_at_call 31; refine (HC2.out _ _).mono ?_; rw [HP.out]; (rintro e w' ⟨rfl, hb⟩; obtain ⟨n, es, rfl⟩ := below_more hb; clear hb)))
        go_roundg ((lo + hi) / 2 - lo)
        case measure => omega
        case rel =>
          have hp2 := of_decide_eq_true HP.out
          exact ⟨lo, (lo + hi) / 2, rfl, by rw [← hq], by omega, by omega, Nat.le_refl _, below_more (by (repeat (first | exact Below.refl _ _ | assumption | refine nw_more ?_ _ _ | refine nw_alloc ?_ _ | refine nw_drew ?_ | refine nw_drewN ?_ _ | refine nw_set ?_ (by first | (simp; done) | (simp; omega) | omega) _))), Lib.hid ⟨I.out.1, fun t ht htl => HM.out _ t ht htl hp2⟩⟩
    · obtain rfl : hi = lo := by omega
      have HE : Hid (R = hi) := Lib.hid (HS.out hi hin I.out.1 (fun h => I.out.2 hi (Nat.le_refl _) h))
      clear HC
      go_wp2
      go_ret
      exact ⟨by rw [HE.out]; rfl, by (repeat (first | exact Below.refl _ _ | assumption | refine nw_more ?_ _ _ | refine nw_alloc ?_ _ | refine nw_drew ?_ | refine nw_drewN ?_ _ | refine nw_set ?_ (by first | (simp; done) | (simp; omega) | omega) _))⟩

set_option maxHeartbeats 1000000 in
theorem seen_any (w : World) (v : Value) (l : List Vr) (n a : Int) (h : VsAt w v l) (hok : lOk a l = true) (h0 : 0 < l.length) :
    Calls Try.prog 23 #[v, .int .i64 n] w fun e w' => e = .returned (.int .i64 (seenI n l)) ∧ Below w.heap.size w w' := by
  obtain ⟨p, cap, rfl, hl, hcap, ht⟩ := h.at
  obtain ⟨b, off, x, rfl, hb, -⟩ := ht 0 h0
  have H := Lib.hid h
  clear ht h
  go_enter Try.func23, Try.ntmps23
  go_wp2_with (first | (go_at_call 30; refine (search_any _ _ _ b off cap l n a ?_ ?_ hok (H.out.below (by (repeat (first | exact Below.refl _ _ | assumption | refine nw_more ?_ _ _ | refine nw_alloc ?_ _ | refine nw_drew ?_ | refine nw_drewN ?_ _ | refine nw_set ?_ (by first | (simp; done) | (simp; omega) | omega) _)))) ?_ ?_).mono ?_; (focus (simp [go_sem]; done)); (focus (simp [go_sem]; done)); (focus (simp [go_sem]; done)); (focus (simp [go_sem]; done)); (rintro e w' ⟨rfl, hb⟩; obtain ⟨n, es, rfl⟩ := below_more hb; clear hb)))
  go_ret
  exact ⟨rfl, by (repeat (first | exact Below.refl _ _ | assumption | refine nw_more ?_ _ _ | refine nw_alloc ?_ _ | refine nw_drew ?_ | refine nw_drewN ?_ _ | refine nw_set ?_ (by first | (simp; done) | (simp; omega) | omega) _))⟩

set_option maxHeartbeats 1000000 in
theorem left_any (w : World) (p : Option Addr) (cap : Nat) (l : List Vr) (n a : Int) (h : VsAt w (.slice p l.length cap) l) (hok : lOk a l = true) (h0 : 0 < l.length) :
    Calls Try.prog 21 #[.slice p l.length cap, .int .i64 n] w fun e w' => e = .returned (.slice p (leftV n l).length cap) ∧ Below w.heap.size w w' := by
  obtain ⟨p', cap', e0, hl, hcap, ht⟩ := h.at
  simp only [Value.slice.injEq] at e0
  obtain ⟨rfl, -, rfl⟩ := e0
  have H := Lib.hid h
  have hc0 : (l.length : Int) ≤ (cap : Int) := by omega
  rcases at_seen n l with ⟨e1, e2, e3⟩ | ⟨x, e1, e2, e3⟩
  · obtain ⟨b, off, x, rfl, hb, -⟩ := ht 0 h0
    have HE : Hid (leftV n l = l) := Lib.hid e3
    have HS : Hid (seenI n l = l.length) := Lib.hid e1
    clear e1 e2 e3 ht h
    go_enter Try.func21, Try.ntmps21
    go_wp2_with (first | (go_at_call 23; refine (seen_any _ _ l n a (H.out.below (by (repeat (first | exact Below.refl _ _ | assumption | refine nw_more ?_ _ _ | refine nw_alloc ?_ _ | refine nw_drew ?_ | refine nw_drewN ?_ _ | refine nw_set ?_ (by first | (simp; done) | (simp; omega) | omega) _)))) hok h0).mono ?_; rw [HS.out]; (rintro e w' ⟨rfl, hb⟩; obtain ⟨n, es, rfl⟩ := below_more hb; clear hb)))
    go_ret
    exact ⟨by rw [HE.out]; rfl, by (repeat (first | exact Below.refl _ _ | assumption | refine nw_more ?_ _ _ | refine nw_alloc ?_ _ | refine nw_drew ?_ | refine nw_drewN ?_ _ | refine nw_set ?_ (by first | (simp; done) | (simp; omega) | omega) _))⟩
  · have hlt : seenI n l < l.length := (List.getElem?_eq_some_iff.1 e1).1
    obtain ⟨b, off, y, rfl, hb, q0, q1, q2, -, hy, -⟩ := ht _ hlt
    obtain rfl : y = x := by rw [e1] at hy; exact (Option.some.inj hy).symm
    obtain ⟨c, s, g⟩ := y
    dsimp only at q0 q1 q2 e2 e3
    have HLE := Lib.hid (seen_le n l)
    generalize hS : seenI n l = k at *
    have HS := Lib.hid hS
    have hlt2 : (k : Int) < (l.length : Int) := by omega
    cases g
    · have HE : Hid ((leftV n l).length = k + 1) := Lib.hid (by rw [(e3 rfl).2, List.length_take]; omega)
      clear e1 e2 e3 ht h hS hy
      go_enter Try.func21, Try.ntmps21
      go_wp2_with (first | (go_at_call 23; refine (seen_any _ _ l n a (H.out.below (by (repeat (first | exact Below.refl _ _ | assumption | refine nw_more ?_ _ _ | refine nw_alloc ?_ _ | refine nw_drew ?_ | refine nw_drewN ?_ _ | refine nw_set ?_ (by first | (simp; done) | (simp; omega) | omega) _)))) hok h0).mono ?_; rw [HS.out]; (rintro e w' ⟨rfl, hb⟩; obtain ⟨n, es, rfl⟩ := below_more hb; clear hb)))
      go_ret
      exact ⟨by rw [HE.out]; rfl, by (repeat (first | exact Below.refl _ _ | assumption | refine nw_more ?_ _ _ | refine nw_alloc ?_ _ | refine nw_drew ?_ | refine nw_drewN ?_ _ | refine nw_set ?_ (by first | (simp; done) | (simp; omega) | omega) _))⟩
    · have HE : Hid ((leftV n l).length = k) := Lib.hid (by rw [(e2 rfl).2, List.length_take]; omega)
      clear e1 e2 e3 ht h hS hy
      go_enter Try.func21, Try.ntmps21
      go_wp2_with (first | (go_at_call 23; refine (seen_any _ _ l n a (H.out.below (by (repeat (first | exact Below.refl _ _ | assumption | refine nw_more ?_ _ _ | refine nw_alloc ?_ _ | refine nw_drew ?_ | refine nw_drewN ?_ _ | refine nw_set ?_ (by first | (simp; done) | (simp; omega) | omega) _)))) hok h0).mono ?_; rw [HS.out]; (rintro e w' ⟨rfl, hb⟩; obtain ⟨n, es, rfl⟩ := below_more hb; clear hb)))
      go_ret
      exact ⟨by rw [HE.out]; rfl, by (repeat (first | exact Below.refl _ _ | assumption | refine nw_more ?_ _ _ | refine nw_alloc ?_ _ | refine nw_drew ?_ | refine nw_drewN ?_ _ | refine nw_set ?_ (by first | (simp; done) | (simp; omega) | omega) _))⟩

/-- Two results: a version, beside an error. -/
def atTwo : Bool → Option Vr → Value
  | false, _ => .tuple #[.agg #[.int .i64 0, .string E0, .bool false], .int .i64 1]
  | true, none => .tuple #[.agg #[.int .i64 0, .string E0, .bool false], .int .i64 3]
  | true, some x => .tuple #[.agg #[.int .i64 x.c, .string x.s, .bool x.g], .int .i64 0]
/-- Two results: a chain, beside an error. -/
def chTwo : Bool → ByteArray → Value → Value
  | false, _, _ => .tuple #[.agg #[.string E0, .slice none 0 0], .int .i64 1]
  | true, k, v => .tuple #[.agg #[.string k, v], .int .i64 0]
@[go_sem] theorem chTwo_true (k : ByteArray) (v : Value) : chTwo true k v = .tuple #[.agg #[.string k, v], .int .i64 0] := rfl
@[go_sem] theorem chTwo_false (k : ByteArray) (v : Value) : chTwo false k v = .tuple #[.agg #[.string E0, .slice none 0 0], .int .i64 1] := rfl
@[go_sem] theorem atTwo_false (o : Option Vr) : atTwo false o = .tuple #[.agg #[.int .i64 0, .string E0, .bool false], .int .i64 1] := rfl
@[go_sem] theorem atTwo_none : atTwo true none = .tuple #[.agg #[.int .i64 0, .string E0, .bool false], .int .i64 3] := rfl
@[go_sem] theorem atTwo_some (c : Int) (s : ByteArray) (g : Bool) : atTwo true (some ⟨c, s, g⟩) = .tuple #[.agg #[.int .i64 c, .string s, .bool g], .int .i64 0] := rfl

set_option maxHeartbeats 1000000 in
theorem count_any (w : World) (s : ByteArray) (v : Value) (l : List Vr) (hs : s.size ≤ 140737488355328) (h : VsAt w v l) :
    Calls Try.prog 14 #[.agg #[.string s, v]] w fun e w' => e = .returned (match chOk s l with | true => .tuple #[.int .i64 l.length, .int .i64 0] | false => .tuple #[.int .i64 0, .int .i64 1]) ∧ Below w.heap.size w w' := by
  obtain ⟨p, cap, rfl, hcap⟩ := h.slice
  have hl := h.1
  have H := Lib.hid h
  clear h
  cases hk : chOk s l
  all_goals
    have HK := Lib.hid hk
    clear hk
    go_enter Try.func14, Try.ntmps14
    go_wp2_with (first | (go_at_call 20; refine (mayBe_any _ _ _ l hs (H.out.below (by (repeat (first | exact Below.refl _ _ | assumption | refine nw_more ?_ _ _ | refine nw_alloc ?_ _ | refine nw_drew ?_ | refine nw_drewN ?_ _ | refine nw_set ?_ (by first | (simp; done) | (simp; omega) | omega) _))))).mono ?_; rw [HK.out]; (rintro e w' ⟨rfl, hb⟩; obtain ⟨n, es, rfl⟩ := below_more hb; clear hb)))
    go_ret2
    exact ⟨rfl, by (repeat (first | exact Below.refl _ _ | assumption | refine nw_more ?_ _ _ | refine nw_alloc ?_ _ | refine nw_drew ?_ | refine nw_drewN ?_ _ | refine nw_set ?_ (by first | (simp; done) | (simp; omega) | omega) _))⟩
end Go.Proofs.Ytkjejmikcgjnaaa
