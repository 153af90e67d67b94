/- Contracts of package tree: keys that rise, keys of a part, lists that may be. -/
import Derived.Test.YtaophiknldkfdaaGreatDoorTreeA
import Derived.Deep.DeepCutAuto
namespace Go.Proofs.YtaophiknldkfdaaGreatDoor
open Go.RowKit

set_option maxHeartbeats 400000 in
theorem rise_any {α : Type} (K : Ks α) (B : Nat) (w : World) (v : Value) (l : List α) (h : KeysIn K B w v l) :
    Calls Tryz.prog 77 #[v] w fun e w' => e = .returned (.bool (riseB K l)) ∧ Below w.heap.size w w' := by
  obtain ⟨p, cap, rfl, hl, ht⟩ := h.at
  have H := Lib.hid ht
  clear h ht
  by_cases hn : l.length = 0
  · have HE : Hid (true = riseB K l) := Lib.hid (by rw [List.length_eq_zero_iff.1 hn]; rfl)
    rw [hn]
    go_enter Tryz.func77, Tryz.ntmps77
    go_wp2
    go_loop [3] (fun i => i = .int .i64 1) (fun _ => 0)
    case atStart => rfl
    case round =>
      subst hrel
      go_wp2
      go_ret
      exact ⟨ret_bool HE.out, Below.refl _ _⟩
  · have HS : Hid (∃ x, l[1 - 1]? = some x ∧ riseFrom K x (l.drop 1) = riseB K l) := Lib.hid (by
      cases l with
      | nil => simp at hn
      | cons a r => exact ⟨a, rfl, rfl⟩)
    go_enter Tryz.func77, Tryz.ntmps77
    go_wp2
    go_loopg [3] l.length (fun g i wr => (∃ n es, wr = more w n es) ∧ ∃ k : Nat, 1 ≤ k ∧ k ≤ l.length ∧ g + k = l.length + 1 ∧ i = .int .i64 k ∧ Hid (∃ x, l[k - 1]? = some x ∧ riseFrom K x (l.drop k) = riseB K l))
    case atStart => exact ⟨below_more (Below.refl _ _), 1, by omega, by omega, by omega, rfl, HS⟩
    case round =>
      clear HS
      obtain ⟨⟨n, es, rfl⟩, k, hk1, hk, hg, rfl, HT⟩ := hrel
      obtain rfl : gk = l.length + 1 - k := by omega
      clear hg
      by_cases hlt : k < l.length
      · obtain ⟨b, off, y, rfl, hb, hc, hd, hyk⟩ := H.out k hlt
        obtain ⟨b', off', x, e', -, hcx, -, hxk⟩ := H.out (k - 1) (by omega)
        obtain ⟨rfl, rfl⟩ : b = b' ∧ off = off' := by simpa using e'
        have HT1 : Hid ((K.lt x y && riseFrom K y (l.drop (k + 1))) = riseB K l) := Lib.hid (by
          obtain ⟨x', h1, h2⟩ := HT.out
          rw [hxk] at h1
          obtain rfl := Option.some.inj h1
          rw [hd, riseFrom] at h2; exact h2)
        have HY := Lib.hid hyk
        have k0 : (0 : Int) < (k : Int) := by omega
        have k1 : (k : Int) < (l.length : Int) := by omega
        have hls := K.hlt x y
        clear e' hd hyk hxk HT
        cases hx : K.lt x y
        · have HE : Hid (false = riseB K l) := Lib.hid (by have := HT1.out; rw [hx] at this; exact this)
          rw [hx] at hls
          clear hx HT1
          have j1 : IntKind.i64.wrap ((k : Int) - 1) = (k : Int) - 1 := IntWalk.i64_in _ (by omega)
          have j2 : (1 : Int) ≤ (k : Int) := by omega
          have j3 : (0 : Int) ≤ (k : Int) - 1 := by omega
          have j4 : (k : Int) - 1 < (l.length : Int) := by omega
          have j5 : ((k : Int) - 1).toNat = k - 1 := by omega
          go_wp2_with fail
          (refine wp_region_quiet_more (by kernel_rfl) (by kernel_rfl) ?_; (repeat (first | go_big_quiet_skip | quiet_step ((first | fail)))); refine wpQuiet_nil ?_; intro _ hw'; obtain ⟨⟨nq, esq⟩, hw''⟩ := hw'; subst hw''; dsimp only)
          go_wp2
          go_ret
          exact ⟨ret_bool HE.out, by (repeat (first | exact Below.refl _ _ | assumption | refine nw_more ?_ _ _ | refine nw_alloc ?_ _ | refine nw_drew ?_ | refine nw_drewN ?_ _ | refine nw_set ?_ (by first | (simp; done) | (simp; omega) | omega) _))⟩
        · have HE : Hid (riseFrom K y (l.drop (k + 1)) = riseB K l) := Lib.hid (by have := HT1.out; rw [hx] at this; exact this)
          rw [hx] at hls
          clear hx HT1
          have j1 : IntKind.i64.wrap ((k : Int) - 1) = (k : Int) - 1 := IntWalk.i64_in _ (by omega)
          have j2 : (1 : Int) ≤ (k : Int) := by omega
          have j3 : (0 : Int) ≤ (k : Int) - 1 := by omega
          have j4 : (k : Int) - 1 < (l.length : Int) := by omega
          have j5 : ((k : Int) - 1).toNat = k - 1 := by omega
          go_wp2_with fail
          (refine wp_region_quiet_more (by kernel_rfl) (by kernel_rfl) ?_; (repeat (first | go_big_quiet_skip | quiet_step ((first | fail)))); refine wpQuiet_nil ?_; intro _ hw'; obtain ⟨⟨nq, esq⟩, hw''⟩ := hw'; subst hw''; dsimp only)
          go_wp2
          go_roundg (l.length + 1 - k - 1)
          case measure => omega
          case rel => exact ⟨below_more (by (repeat (first | exact Below.refl _ _ | assumption | refine nw_more ?_ _ _ | refine nw_alloc ?_ _ | refine nw_drew ?_ | refine nw_drewN ?_ _ | refine nw_set ?_ (by first | (simp; done) | (simp; omega) | omega) _))), k + 1, by omega, by omega, by omega, by go_num, Lib.hid ⟨y, HY.out, HE.out⟩⟩
      · have e : k = l.length := by omega
        have HE : Hid (true = riseB K l) := Lib.hid (by obtain ⟨x, -, h2⟩ := HT.out; rw [e, List.drop_length] at h2; exact h2)
        clear e HT
        go_wp2
        go_ret
        exact ⟨ret_bool HE.out, by (repeat (first | exact Below.refl _ _ | assumption | refine nw_more ?_ _ _ | refine nw_alloc ?_ _ | refine nw_drew ?_ | refine nw_drewN ?_ _ | refine nw_set ?_ (by first | (simp; done) | (simp; omega) | omega) _))⟩

/-- A part of the keys, as a range's bounds. -/
def loS {α : Type} (K : Ks α) : Option α → ByteArray
  | none => { data := #[] }
  | some a => K.s a
def BdIs {α : Type} (K : Ks α) (b : Bd α) (lo hi : ByteArray) (top : Bool) : Prop := lo = loS K b.1 ∧ hi = loS K b.2 ∧ top = b.2.isNone
theorem less_none (s : ByteArray) : lessB s { data := #[] } = false := by
  unfold lessB
  have : (ByteArray.mk #[]).toList = [] := by rw [Lib.toList_data]
  rw [this]
  cases s.toList <;> rfl
theorem lo_less {α : Type} {K : Ks α} {b : Option α} {k : α} : lessB (K.s k) (loS K b) = !lowB K b k := by
  cases b with
  | none => rw [loS, less_none]; rfl
  | some a => rw [loS, K.hlt]; simp [lowB]
theorem hi_less {α : Type} {K : Ks α} {h k : α} : lessB (K.s k) (loS K (some h)) = highB K (some h) k := by
  rw [loS, K.hlt]; rfl

set_option maxHeartbeats 400000 in
theorem areIn_any {α : Type} (K : Ks α) (B : Nat) (w : World) (v : Value) (l : List α) (b : Bd α) (lo hi : ByteArray) (top : Bool) (h : KeysIn K B w v l) (hb : BdIs K b lo hi top) :
    Calls Tryz.prog 78 #[v, .agg #[.string lo, .string hi, .bool top]] w fun e w' => e = .returned (.bool (areInB K b l)) ∧ Below w.heap.size w w' := by
  obtain ⟨p, cap, rfl, hl, ht⟩ := h.at
  have H := Lib.hid ht
  obtain ⟨rfl, rfl, rfl⟩ := hb
  obtain ⟨b1, b2⟩ := b
  dsimp only
  clear h ht
  cases b2 with
  | none =>
    generalize hlo : loS K b1 = lo
    have HLO := Lib.hid hlo
    generalize hhi : loS K (none : Option α) = hi
    clear hlo hhi
    dsimp only [Option.isNone]
    go_enter Tryz.func78, Tryz.ntmps78
    go_wp2
    go_loop [9] (fun i => ∃ k : Nat, k ≤ l.length ∧ Hid (areInB K (b1, none) (l.drop k) = areInB K (b1, none) l) ∧ i = .int .i64 k) (fun i => l.length - (intOf i).toNat)
    case atStart => exact ⟨0, Nat.zero_le _, rfl, rfl⟩
    case round =>
      obtain ⟨k, hk, HT, rfl⟩ := hrel
      by_cases hlt : k < l.length
      · obtain ⟨b, off, x, rfl, hb, hc, hd, -⟩ := H.out k hlt
        have HT1 : Hid ((lowB K b1 x && areInB K (b1, none) (l.drop (k + 1))) = areInB K (b1, none) l) := Lib.hid (by have := HT.out; rw [hd, areInB] at this; simpa [inB, highB] using this)
        have hls : lessB (K.s x) lo = !lowB K b1 x := by rw [← HLO.out]; exact lo_less
        clear hd HT
        cases hx : lowB K b1 x
        · have HE : Hid (false = areInB K (b1, none) l) := Lib.hid (by have := HT1.out; rw [hx] at this; exact this)
          rw [hx, Bool.not_false] at hls
          clear hx HT1
          go_wp2
          go_ret
          exact ⟨ret_bool HE.out, by (repeat (first | exact Below.refl _ _ | assumption | refine nw_more ?_ _ _ | refine nw_alloc ?_ _ | refine nw_drew ?_ | refine nw_drewN ?_ _ | refine nw_set ?_ (by first | (simp; done) | (simp; omega) | omega) _))⟩
        · have HE : Hid (areInB K (b1, none) (l.drop (k + 1)) = areInB K (b1, none) l) := Lib.hid (by have := HT1.out; rw [hx] at this; exact this)
          rw [hx, Bool.not_true] at hls
          clear hx HT1
          go_wp2
          go_round
          case rel => exact ⟨k + 1, by omega, HE, by go_num⟩
          case measure => simp [intOf]; omega
      · have e : k = l.length := by omega
        have HE : Hid (true = areInB K (b1, none) l) := Lib.hid (by have := HT.out; rw [e, List.drop_length] at this; exact this)
        clear e HT
        go_wp2
        go_ret
        exact ⟨ret_bool HE.out, by (repeat (first | exact Below.refl _ _ | assumption | refine nw_more ?_ _ _ | refine nw_alloc ?_ _ | refine nw_drew ?_ | refine nw_drewN ?_ _ | refine nw_set ?_ (by first | (simp; done) | (simp; omega) | omega) _))⟩
  | some c =>
    generalize hlo : loS K b1 = lo
    have HLO := Lib.hid hlo
    generalize hhi : loS K (some c) = hi
    have HHI := Lib.hid hhi
    clear hlo hhi
    dsimp only [Option.isNone]
    go_enter Tryz.func78, Tryz.ntmps78
    go_wp2
    go_loop [9] (fun i => ∃ k : Nat, k ≤ l.length ∧ Hid (areInB K (b1, some c) (l.drop k) = areInB K (b1, some c) l) ∧ i = .int .i64 k) (fun i => l.length - (intOf i).toNat)
    case atStart => exact ⟨0, Nat.zero_le _, rfl, rfl⟩
    case round =>
      obtain ⟨k, hk, HT, rfl⟩ := hrel
      by_cases hlt : k < l.length
      · obtain ⟨b, off, x, rfl, hb, hc, hd, -⟩ := H.out k hlt
        have HT1 : Hid (((lowB K b1 x && highB K (some c) x) && areInB K (b1, some c) (l.drop (k + 1))) = areInB K (b1, some c) l) := Lib.hid (by have := HT.out; rw [hd, areInB] at this; exact this)
        have hls : lessB (K.s x) lo = !lowB K b1 x := by rw [← HLO.out]; exact lo_less
        have hhs : lessB (K.s x) hi = highB K (some c) x := by rw [← HHI.out]; exact hi_less
        clear hd HT
        cases hx : lowB K b1 x
        · have HE : Hid (false = areInB K (b1, some c) l) := Lib.hid (by have := HT1.out; rw [hx] at this; exact this)
          rw [hx, Bool.not_false] at hls
          clear hx HT1 hhs
          go_wp2
          go_ret
          exact ⟨ret_bool HE.out, by (repeat (first | exact Below.refl _ _ | assumption | refine nw_more ?_ _ _ | refine nw_alloc ?_ _ | refine nw_drew ?_ | refine nw_drewN ?_ _ | refine nw_set ?_ (by first | (simp; done) | (simp; omega) | omega) _))⟩
        · rw [hx, Bool.not_true] at hls
          cases hy : highB K (some c) x
          · have HE : Hid (false = areInB K (b1, some c) l) := Lib.hid (by have := HT1.out; rw [hx, hy] at this; exact this)
            rw [hy] at hhs
            clear hx hy HT1
            go_wp2
            go_ret
            exact ⟨ret_bool HE.out, by (repeat (first | exact Below.refl _ _ | assumption | refine nw_more ?_ _ _ | refine nw_alloc ?_ _ | refine nw_drew ?_ | refine nw_drewN ?_ _ | refine nw_set ?_ (by first | (simp; done) | (simp; omega) | omega) _))⟩
          · have HE : Hid (areInB K (b1, some c) (l.drop (k + 1)) = areInB K (b1, some c) l) := Lib.hid (by have := HT1.out; rw [hx, hy] at this; exact this)
            rw [hy] at hhs
            clear hx hy HT1
            go_wp2
            go_round
            case rel => exact ⟨k + 1, by omega, HE, by go_num⟩
            case measure => simp [intOf]; omega
      · have e : k = l.length := by omega
        have HE : Hid (true = areInB K (b1, some c) l) := Lib.hid (by have := HT.out; rw [e, List.drop_length] at this; exact this)
        clear e HT
        go_wp2
        go_ret
        exact ⟨ret_bool HE.out, by (repeat (first | exact Below.refl _ _ | assumption | refine nw_more ?_ _ _ | refine nw_alloc ?_ _ | refine nw_drew ?_ | refine nw_drewN ?_ _ | refine nw_set ?_ (by first | (simp; done) | (simp; omega) | omega) _))⟩

set_option maxHeartbeats 1000000 in
theorem lists_any {α : Type} (K : Ks α) (B : Nat) (w : World) (x : Nv α) (h : NodeIn K B w x) :
    Calls Tryz.prog 79 #[.agg #[x.kv, x.rv, x.cv, .bool x.n.leaf]] w fun e w' => e = .returned (.bool (listsB K x.n)) ∧ Below w.heap.size w w' := by
  obtain ⟨kv, rv, cv, ks, rs, cs, leaf⟩ := x
  obtain ⟨hk, hr, hc⟩ := h
  dsimp only at hk hr hc ⊢
  have HK := Lib.hid hk
  have HR := Lib.hid hr
  have lk := hk.len
  have lr := hr.1
  have lc := hc.1
  obtain ⟨p1, c1, rfl, -⟩ := hk.slice
  obtain ⟨p2, c2, rfl, -⟩ := hr.slice
  obtain ⟨p3, c3, rfl, -⟩ := hc.slice
  clear hk hr hc
  cases leaf with
  | true =>
    have HB : Hid (listsB K ⟨ks, rs, cs, true⟩ = (decide (cs.length = 0) && (decide (rs.length = ks.length) && (areKeysB K ks && areRowsB rs)))) := rfl
    by_cases h1 : cs.length = 0
    · by_cases h2 : rs.length = ks.length
      · have HR2 : Hid (IntsIn B w (.slice p2 ks.length c2) rs) := Lib.hid (by have h := HR.out; rw [h2] at h; exact h)
        cases h3 : areKeysB K ks
        all_goals
          have HE := Lib.hid h3
          have HF : Hid (listsB K ⟨ks, rs, cs, true⟩ = (areKeysB K ks && areRowsB rs)) := Lib.hid (by rw [HB.out, decide_eq_true h1, decide_eq_true h2]; rfl)
          clear h3
          rw [h1, h2]
          clear h2 HR
          go_enter Tryz.func79, Tryz.ntmps79
          go_wp2_with (first | (go_at_call 88; refine (areKeys_any K B _ _ ks (HK.out.below (by (repeat (first | exact Below.refl _ _ | assumption | refine nw_more ?_ _ _ | refine nw_alloc ?_ _ | refine nw_drew ?_ | refine nw_drewN ?_ _ | refine nw_set ?_ (by first | (simp; done) | (simp; omega) | omega) _))))).mono ?_; rw [HE.out]; rintro e w' ⟨rfl, rfl⟩) | (go_at_call 89; refine (areRows_any B _ _ rs (HR2.out.below (by (repeat (first | exact Below.refl _ _ | assumption | refine nw_more ?_ _ _ | refine nw_alloc ?_ _ | refine nw_drew ?_ | refine nw_drewN ?_ _ | refine nw_set ?_ (by first | (simp; done) | (simp; omega) | omega) _))))).mono ?_; rintro e w' ⟨rfl, rfl⟩))
          go_ret
          exact ⟨ret_bool (by rw [HF.out, HE.out]; rfl), by (repeat (first | exact Below.refl _ _ | assumption | refine nw_more ?_ _ _ | refine nw_alloc ?_ _ | refine nw_drew ?_ | refine nw_drewN ?_ _ | refine nw_set ?_ (by first | (simp; done) | (simp; omega) | omega) _))⟩
      · have h2' : ¬ (rs.length : Int) = ks.length := by omega
        rw [h1]
        go_enter Tryz.func79, Tryz.ntmps79
        go_wp2
        go_ret
        exact ⟨ret_bool (by rw [HB.out, decide_eq_false h2]; simp), by (repeat (first | exact Below.refl _ _ | assumption | refine nw_more ?_ _ _ | refine nw_alloc ?_ _ | refine nw_drew ?_ | refine nw_drewN ?_ _ | refine nw_set ?_ (by first | (simp; done) | (simp; omega) | omega) _))⟩
    · have h1' : ¬ (cs.length : Int) = 0 := by omega
      go_enter Tryz.func79, Tryz.ntmps79
      go_wp2
      go_ret
      exact ⟨ret_bool (by rw [HB.out, decide_eq_false h1]; rfl), by (repeat (first | exact Below.refl _ _ | assumption | refine nw_more ?_ _ _ | refine nw_alloc ?_ _ | refine nw_drew ?_ | refine nw_drewN ?_ _ | refine nw_set ?_ (by first | (simp; done) | (simp; omega) | omega) _))⟩
  | false =>
    have HB : Hid (listsB K ⟨ks, rs, cs, false⟩ = (decide (rs.length = 0) && (decide (0 < ks.length) && decide (cs.length = ks.length + 1)))) := rfl
    by_cases h1 : rs.length = 0
    · by_cases h2 : 0 < ks.length
      · by_cases h3 : cs.length = ks.length + 1
        · have h3' : (cs.length : Int) = (ks.length : Int) + 1 := by omega
          have HF : Hid (true = listsB K ⟨ks, rs, cs, false⟩) := Lib.hid (by rw [HB.out, decide_eq_true h1, decide_eq_true h2, decide_eq_true h3]; rfl)
          clear h3
          rw [h1]
          go_enter Tryz.func79, Tryz.ntmps79
          go_wp2
          go_ret
          exact ⟨ret_bool HF.out, by (repeat (first | exact Below.refl _ _ | assumption | refine nw_more ?_ _ _ | refine nw_alloc ?_ _ | refine nw_drew ?_ | refine nw_drewN ?_ _ | refine nw_set ?_ (by first | (simp; done) | (simp; omega) | omega) _))⟩
        · have h3' : ¬ (cs.length : Int) = (ks.length : Int) + 1 := by omega
          rw [h1]
          go_enter Tryz.func79, Tryz.ntmps79
          go_wp2
          go_ret
          exact ⟨ret_bool (by rw [HB.out, decide_eq_false h3]; simp; exact h3'), by (repeat (first | exact Below.refl _ _ | assumption | refine nw_more ?_ _ _ | refine nw_alloc ?_ _ | refine nw_drew ?_ | refine nw_drewN ?_ _ | refine nw_set ?_ (by first | (simp; done) | (simp; omega) | omega) _))⟩
      · rw [h1]
        go_enter Tryz.func79, Tryz.ntmps79
        go_wp2
        go_ret
        exact ⟨ret_bool (by rw [HB.out, decide_eq_false h2]; simp), by (repeat (first | exact Below.refl _ _ | assumption | refine nw_more ?_ _ _ | refine nw_alloc ?_ _ | refine nw_drew ?_ | refine nw_drewN ?_ _ | refine nw_set ?_ (by first | (simp; done) | (simp; omega) | omega) _))⟩
    · have h1' : ¬ (rs.length : Int) = 0 := by omega
      go_enter Tryz.func79, Tryz.ntmps79
      go_wp2
      go_ret
      exact ⟨ret_bool (by rw [HB.out, decide_eq_false h1]; rfl), by (repeat (first | exact Below.refl _ _ | assumption | refine nw_more ?_ _ _ | refine nw_alloc ?_ _ | refine nw_drew ?_ | refine nw_drewN ?_ _ | refine nw_set ?_ (by first | (simp; done) | (simp; omega) | omega) _))⟩
end Go.Proofs.YtaophiknldkfdaaGreatDoor
