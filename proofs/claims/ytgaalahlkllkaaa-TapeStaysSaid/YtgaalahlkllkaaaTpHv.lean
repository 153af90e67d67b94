/- The weight of the argument: it is told, whatever it is; acts in memory. No condition. -/
import Derived.Test.YtgaalahlkllkaaaTpM
namespace Go.Proofs.Ytgaalahlkllkaaa
open Go.RowKit

/-- An act: the slice of its steps, these; the slice of its numbers. -/
structure Av where
  v : Value
  D : List Dd
  kp : Option Addr
  kn : Nat
  kc : Nat
instance : Inhabited Av := ⟨⟨.slice none 0 0, [], none, 0, 0⟩⟩
/-- The slice v holds the acts Q, four cells each, in a block below the world's end. -/
def AcAt (w : World) (v : Value) (Q : List Av) : Prop :=
  Q.length ≤ 140737488355328 ∧ (∃ p cap, v = .slice p Q.length cap ∧ ∀ i, i < Q.length → ∃ b off, p = some ⟨b, off, none⟩ ∧ b < w.heap.size ∧ w.cell? ⟨b, off + i * 4 + 2, none⟩ = some (Q.getD i default).v ∧ w.cell? ⟨b, off + i * 4 + 3, none⟩ = some (.slice (Q.getD i default).kp (Q.getD i default).kn (Q.getD i default).kc)) ∧ ∀ x ∈ Q, DsAt w x.v x.D
theorem AcAt.below {w w' : World} {v : Value} {Q : List Av} (h : AcAt w v Q) (hb : Below w.heap.size w w') : AcAt w' v Q := by
  obtain ⟨h0, ⟨p, cap, h1, h4⟩, h5⟩ := h
  refine ⟨h0, ⟨p, cap, h1, fun i hi => ?_⟩, fun x hx => (h5 x hx).below hb⟩
  obtain ⟨b, off, e, h2, h6, h7⟩ := h4 i hi
  exact ⟨b, off, e, Nat.lt_of_lt_of_le h2 hb.size, by rw [hb.cell (p := ⟨b, off + i * 4 + 2, none⟩) h2]; exact h6, by rw [hb.cell (p := ⟨b, off + i * 4 + 3, none⟩) h2]; exact h7⟩
theorem AcAt.at {w : World} {v : Value} {Q : List Av} (h : AcAt w v Q) : ∃ p cap, v = .slice p Q.length cap ∧ Q.length ≤ 140737488355328 ∧ ∀ k, k < Q.length → ∃ (b off : Nat) (x : Av), p = some ⟨b, off, none⟩ ∧ Lt b w.heap.size ∧ w.cell? ⟨b, off + k * 4 + 2, none⟩ = some x.v ∧ w.cell? ⟨b, off + k * 4 + 3, none⟩ = some (.slice x.kp x.kn x.kc) ∧ DsAt w x.v x.D := by
  obtain ⟨h0, ⟨p, cap, h1, h4⟩, h5⟩ := h
  refine ⟨p, cap, h1, h0, fun k hk => ?_⟩
  obtain ⟨b, off, e, h2, h6, h7⟩ := h4 k hk
  have hx : Q[k]? = some (Q.getD k default) := by simp [List.getD, hk]
  exact ⟨b, off, _, e, h2, h6, h7, h5 _ (List.mem_of_getElem? hx)⟩

/-- Some number is told. -/
def NumOut (w : World) (e : Ending) (w' : World) : Prop := ∃ m : Int, e = .returned (.int .i64 m) ∧ Below w.heap.size w w'
/-- Some yes or no is told. -/
def BoolOut (w : World) (e : Ending) (w' : World) : Prop := ∃ b : Bool, e = .returned (.bool b) ∧ Below w.heap.size w w'
set_option maxHeartbeats 4000000 in
theorem tapeWeight_any (w : World) (us vs : Value) (S : List ByteArray) (l : List Pt) (hs : SsAt w us S) (hp : PsAt w vs l) :
    Calls Try.prog 15 #[.agg #[us, vs]] w (NumOut w) := by
  obtain ⟨ps, cs, rfl, hsl, -, hsa⟩ := hs.at
  obtain ⟨pp, cp, rfl, hpl, -, hpa⟩ := hp.at
  have HS := Lib.hid hsa
  have HP := Lib.hid hpa
  clear hs hp hsa hpa
  go_enter Try.func15, Try.ntmps15
  go_wp2
  go_loopg [3, 4] (S.length + 1) (fun g s3 s4 wr => (∃ n es, wr = more (w.alloc (Obj.cells #[.slice ps S.length cs, .slice pp l.length cp] 25)) n es) ∧ ∃ (m : Int) (k : Nat), k ≤ S.length ∧ g + k = S.length + 1 ∧ s3 = .int .i64 m ∧ s4 = .int .i64 k)
  case atStart => exact ⟨below_more (by (repeat (first | exact Below.refl _ _ | assumption | refine nw_more ?_ _ _ | refine nw_alloc ?_ _ | refine nw_drew ?_ | refine nw_drewN ?_ _ | refine nw_set ?_ (by first | (simp; done) | (simp; omega) | omega) _))), _, 0, Nat.zero_le _, rfl, rfl, rfl⟩
  case round =>
    obtain ⟨⟨n, es, rfl⟩, m, k, hk, hg, rfl, rfl⟩ := hrel
    obtain rfl : gk = S.length + 1 - k := by omega
    clear hg
    by_cases hgo : k < S.length ∧ m < 1048576
    · obtain ⟨hlt, hm⟩ := hgo
      have hkl : (k : Int) < (S.length : Int) := by omega
      have hdm : decide (m < 1048576) = true := decide_eq_true hm
      obtain ⟨b, off, s, rfl, hb, hc0, -, -, hsz⟩ := HS.out k hlt
      clear HS
      go_wp2_with fail
      go_roundg (S.length + 1 - k - 1)
      case measure => omega
      case rel => exact ⟨below_more (by (repeat (first | exact Below.refl _ _ | assumption | refine nw_more ?_ _ _ | refine nw_alloc ?_ _ | refine nw_drew ?_ | refine nw_drewN ?_ _ | refine nw_set ?_ (by first | (simp; done) | (simp; omega) | omega) _))), _, k + 1, by omega, by omega, rfl, by go_num⟩
    · have hout : (k < S.length ∧ ¬ m < 1048576) ∨ ¬ k < S.length := by omega
      clear HS hgo
      rcases hout with ⟨hlt, hm⟩ | hlt
      all_goals
        have hkl : decide ((k : Int) < (S.length : Int)) = decide (k < S.length) := by simp
        go_wp2_with fail
        go_loopg [3, 5] (l.length + 1) (fun g s3 s5 wr => (∃ n es, wr = more (w.alloc (Obj.cells #[.slice ps S.length cs, .slice pp l.length cp] 25)) n es) ∧ ∃ (m : Int) (k : Nat), k ≤ l.length ∧ g + k = l.length + 1 ∧ s3 = .int .i64 m ∧ s5 = .int .i64 k)
        case atStart => exact ⟨below_more (by (repeat (first | exact Below.refl _ _ | assumption | refine nw_more ?_ _ _ | refine nw_alloc ?_ _ | refine nw_drew ?_ | refine nw_drewN ?_ _ | refine nw_set ?_ (by first | (simp; done) | (simp; omega) | omega) _))), _, 0, Nat.zero_le _, rfl, rfl, rfl⟩
        case round =>
          obtain ⟨⟨n, es, rfl⟩, m, k, hk, hg, rfl, rfl⟩ := hrel
          obtain rfl : gk = l.length + 1 - k := by omega
          clear hg
          by_cases hgo : k < l.length ∧ m < 1048576
          · obtain ⟨hlt, hm⟩ := hgo
            have hkl : (k : Int) < (l.length : Int) := by omega
            have hdm : decide (m < 1048576) = true := decide_eq_true hm
            obtain ⟨b, off, x, rfl, hb, ha0, ha1, -, -, hsz⟩ := HP.out k hlt
            obtain ⟨xi, xs⟩ := x
            dsimp only at ha0 ha1 hsz
            clear HP
            go_wp2_with fail
            go_roundg (l.length + 1 - k - 1)
            case measure => omega
            case rel => exact ⟨below_more (by (repeat (first | exact Below.refl _ _ | assumption | refine nw_more ?_ _ _ | refine nw_alloc ?_ _ | refine nw_drew ?_ | refine nw_drewN ?_ _ | refine nw_set ?_ (by first | (simp; done) | (simp; omega) | omega) _))), _, k + 1, by omega, by omega, rfl, by go_num⟩
          · have hout : (k < l.length ∧ ¬ m < 1048576) ∨ ¬ k < l.length := by omega
            clear HP hgo
            rcases hout with ⟨hlt, hm⟩ | hlt
            · have hkl : (k : Int) < (l.length : Int) := by omega
              go_wp2
              go_ret
              exact ⟨_, rfl, by (repeat (first | exact Below.refl _ _ | assumption | refine nw_more ?_ _ _ | refine nw_alloc ?_ _ | refine nw_drew ?_ | refine nw_drewN ?_ _ | refine nw_set ?_ (by first | (simp; done) | (simp; omega) | omega) _))⟩
            · have hkl : ¬ (k : Int) < (l.length : Int) := by omega
              go_wp2
              go_ret
              exact ⟨_, rfl, by (repeat (first | exact Below.refl _ _ | assumption | refine nw_more ?_ _ _ | refine nw_alloc ?_ _ | refine nw_drew ?_ | refine nw_drewN ?_ _ | refine nw_set ?_ (by first | (simp; done) | (simp; omega) | omega) _))⟩
set_option maxRecDepth 100000 in
set_option maxHeartbeats 8000000 in
theorem heavy18_any (w : World) (us vs av : Value) (N : Int) (S : List ByteArray) (l : List Pt) (Q : List Av) (hs : SsAt w us S) (hp : PsAt w vs l) (ha : AcAt w av Q) :
    Calls Try.prog 4 #[.agg #[us, vs, .int .i64 N, av]] w (BoolOut w) := by
  obtain ⟨ps, cs, rfl, -⟩ := hs.slice
  obtain ⟨pp, cp, rfl, -⟩ := hp.slice
  obtain ⟨pa, ca, rfl, hal, haa⟩ := ha.at
  have HS := Lib.hid hs
  have HP := Lib.hid hp
  have HA := Lib.hid haa
  clear hs hp ha haa
  go_enter Try.func4, Try.ntmps4
  go_upto_region 1 with (fail)
  go_cut [3] (fun s3 wx => (∃ n es, wx = more (w.alloc (Obj.cells #[.slice ps S.length cs, .slice pp l.length cp, .int .i64 N, .slice pa Q.length ca] 28)) n es) ∧ ∃ m : Int, s3 = .int .i64 m)
  case first =>
    go_region_held3 (fun w9 => w9.cell? ⟨w.heap.size, 0, none⟩ = some (.slice ps S.length cs) ∧ w9.cell? ⟨w.heap.size, 1, none⟩ = some (.slice pp l.length cp) ∧ w9.cell? ⟨w.heap.size, 3, none⟩ = some (.slice pa Q.length ca)) (simp [go_sem, *]) (first | (go_at_call 15; refine (tapeWeight_any _ _ _ S l (HS.out.below (by (repeat (first | exact Below.refl _ _ | assumption | refine nw_more ?_ _ _ | refine nw_alloc ?_ _ | refine nw_drew ?_ | refine nw_drewN ?_ _ | refine nw_set ?_ (by first | (simp; done) | (simp; omega) | omega) _)))) (HP.out.below (by (repeat (first | exact Below.refl _ _ | assumption | refine nw_more ?_ _ _ | refine nw_alloc ?_ _ | refine nw_drew ?_ | refine nw_drewN ?_ _ | refine nw_set ?_ (by first | (simp; done) | (simp; omega) | omega) _))))).mono ?_; rintro e w' ⟨m, rfl, hb⟩; obtain ⟨n, es, rfl⟩ := below_more hb; clear hb))
    all_goals
      go_wp2
      go_meet
      exact ⟨below_more (by (repeat (first | exact Below.refl _ _ | assumption | refine nw_more ?_ _ _ | refine nw_alloc ?_ _ | refine nw_drew ?_ | refine nw_drewN ?_ _ | refine nw_set ?_ (by first | (simp; done) | (simp; omega) | omega) _))), _, rfl⟩
  case rest =>
  obtain ⟨⟨n0, es0, rfl⟩, m0, rfl⟩ := hcut
  go_wp2_with fail
  go_loopg [3, 4] (Q.length + 1) (fun g s3 s4 wr => (∃ n es, wr = more (w.alloc (Obj.cells #[.slice ps S.length cs, .slice pp l.length cp, .int .i64 N, .slice pa Q.length ca] 28)) n es) ∧ ∃ (m : Int) (k : Nat), k ≤ Q.length ∧ g + k = Q.length + 1 ∧ s3 = .int .i64 m ∧ s4 = .int .i64 k)
  case atStart => exact ⟨⟨_, _, rfl⟩, _, 0, Nat.zero_le _, rfl, rfl, rfl⟩
  case round =>
    clear HS HP
    obtain ⟨⟨n, es, rfl⟩, m, i, hk, hg, rfl, rfl⟩ := hrel
    obtain rfl : gk = Q.length + 1 - i := by omega
    clear hg
    by_cases hgo : i < Q.length ∧ m < 1048576
    · obtain ⟨hlt, hm⟩ := hgo
      have hil : (i : Int) < (Q.length : Int) := by omega
      have hdm : decide (m < 1048576) = true := decide_eq_true hm
      obtain ⟨b, off, x, rfl, hb, ha0, ha1, hds⟩ := HA.out i hlt
      obtain ⟨xv, D, kp, kn, kc⟩ := x
      dsimp only at ha0 ha1 hds
      obtain ⟨dp, dc, rfl, hDl, hda⟩ := hds.at
      have HD := Lib.hid hda
      clear HA hds hda
      go_wp2_with fail
      (refine wp_region_quiet_more (by kernel_rfl) (by kernel_rfl) ?_; (repeat (first | go_big_quiet_skip | quiet_step ((first | fail)))); refine wpQuiet_nil ?_; intro _ hw'; obtain ⟨⟨nq, esq⟩, hw''⟩ := hw'; subst hw''; dsimp only)
      go_wp2_with fail
      go_loopg [3, 5] (D.length + 1) (fun g s3 s5 wr => (∃ n es, wr = more (w.alloc (Obj.cells #[.slice ps S.length cs, .slice pp l.length cp, .int .i64 N, .slice (some ⟨b, off, none⟩) Q.length ca] 28)) n es) ∧ ∃ (m : Int) (k : Nat), k ≤ D.length ∧ g + k = D.length + 1 ∧ s3 = .int .i64 m ∧ s5 = .int .i64 k)
      case atStart => exact ⟨below_more (by (repeat (first | exact Below.refl _ _ | assumption | refine nw_more ?_ _ _ | refine nw_alloc ?_ _ | refine nw_drew ?_ | refine nw_drewN ?_ _ | refine nw_set ?_ (by first | (simp; done) | (simp; omega) | omega) _))), _, 0, Nat.zero_le _, rfl, rfl, rfl⟩
      case round =>
        obtain ⟨⟨n1, es1, rfl⟩, m1, k, hk1, hg1, rfl, rfl⟩ := hrel
        obtain rfl : gk = D.length + 1 - k := by omega
        clear hg1
        by_cases hgo : k < D.length ∧ m1 < 1048576
        · obtain ⟨hlt1, hm1⟩ := hgo
          have hkl : (k : Int) < (D.length : Int) := by omega
          have hdm1 : decide (m1 < 1048576) = true := decide_eq_true hm1
          obtain ⟨db, doff, y, rfl, hdb, hd0, hd1, hd2, -, -, hsz⟩ := HD.out k hlt1
          obtain ⟨yg, yi, ys⟩ := y
          dsimp only at hd0 hd1 hd2 hsz
          clear HD
          go_wp2_with fail
          go_roundg (D.length + 1 - k - 1)
          case measure => omega
          case rel => exact ⟨below_more (by (repeat (first | exact Below.refl _ _ | assumption | refine nw_more ?_ _ _ | refine nw_alloc ?_ _ | refine nw_drew ?_ | refine nw_drewN ?_ _ | refine nw_set ?_ (by first | (simp; done) | (simp; omega) | omega) _))), _, k + 1, by omega, by omega, rfl, by go_num⟩
        · have hout : (k < D.length ∧ ¬ m1 < 1048576) ∨ ¬ k < D.length := by omega
          clear HD hgo
          rcases hout with ⟨hlt1, hm1⟩ | hlt1
          · have hkl : (k : Int) < (D.length : Int) := by omega
            go_wp2_with fail
            go_roundg (Q.length + 1 - i - 1)
            case measure => omega
            case rel => exact ⟨below_more (by (repeat (first | exact Below.refl _ _ | assumption | refine nw_more ?_ _ _ | refine nw_alloc ?_ _ | refine nw_drew ?_ | refine nw_drewN ?_ _ | refine nw_set ?_ (by first | (simp; done) | (simp; omega) | omega) _))), _, i + 1, by omega, by omega, rfl, by go_num⟩
          · have hkl : ¬ (k : Int) < (D.length : Int) := by omega
            go_wp2_with fail
            go_roundg (Q.length + 1 - i - 1)
            case measure => omega
            case rel => exact ⟨below_more (by (repeat (first | exact Below.refl _ _ | assumption | refine nw_more ?_ _ _ | refine nw_alloc ?_ _ | refine nw_drew ?_ | refine nw_drewN ?_ _ | refine nw_set ?_ (by first | (simp; done) | (simp; omega) | omega) _))), _, i + 1, by omega, by omega, rfl, by go_num⟩
    · have hout : (i < Q.length ∧ ¬ m < 1048576) ∨ ¬ i < Q.length := by omega
      clear HA hgo
      rcases hout with ⟨hlt, hm⟩ | hlt
      · have hkl : (i : Int) < (Q.length : Int) := by omega
        go_wp2
        go_ret
        exact ⟨_, rfl, by (repeat (first | exact Below.refl _ _ | assumption | refine nw_more ?_ _ _ | refine nw_alloc ?_ _ | refine nw_drew ?_ | refine nw_drewN ?_ _ | refine nw_set ?_ (by first | (simp; done) | (simp; omega) | omega) _))⟩
      · have hkl : ¬ (i : Int) < (Q.length : Int) := by omega
        go_wp2
        go_ret
        exact ⟨_, rfl, by (repeat (first | exact Below.refl _ _ | assumption | refine nw_more ?_ _ _ | refine nw_alloc ?_ _ | refine nw_drew ?_ | refine nw_drewN ?_ _ | refine nw_set ?_ (by first | (simp; done) | (simp; omega) | omega) _))⟩
end Go.Proofs.Ytgaalahlkllkaaa
