/- The weight of an argument of layer 6's laws: it is told, whatever it is. No condition. -/
import Derived.Test.YtaophiknldkfdaaGreatDoorTreeMn
import Derived.Test.YtaophiknldkfdaaGreatDoorTPar
namespace Go.Proofs.YtaophiknldkfdaaGreatDoor
open Go.RowKit

def StrsW (w : World) (v : Value) : Prop :=
  ∃ p L cap, v = .slice p L cap ∧ L ≤ maxLen ∧ ∀ i, i < L → ∃ b off, p = some ⟨b, off, none⟩ ∧ b < w.heap.size ∧ ∃ s : ByteArray, w.cell? ⟨b, off + i, none⟩ = some (.string s)
def SlW (v : Value) : Prop := ∃ p L cap, v = .slice p L cap ∧ L ≤ maxLen
/-- Nodes in memory: rows that can be read. -/
def NdsW (w : World) (v : Value) (N : Nat) : Prop :=
  N ≤ maxLen ∧ ∃ p cap, v = .slice p N cap ∧ ∀ i, i < N → ∃ b off k r c, p = some ⟨b, off, none⟩ ∧ b < w.heap.size ∧ w.cell? ⟨b, off + i * 4, none⟩ = some k ∧ w.cell? ⟨b, off + i * 4 + 1, none⟩ = some r ∧ w.cell? ⟨b, off + i * 4 + 2, none⟩ = some c ∧ StrsW w k ∧ SlW r ∧ SlW c
/-- Acts in memory. -/
def ActsW (w : World) (v : Value) (N : Nat) : Prop :=
  N ≤ maxLen ∧ ∃ p cap, v = .slice p N cap ∧ ∀ i, i < N → ∃ b off, p = some ⟨b, off, none⟩ ∧ b < w.heap.size ∧ ∃ s : ByteArray, w.cell? ⟨b, off + i * 3 + 2, none⟩ = some (.string s)
theorem StrsW.below {w w' : World} {v : Value} (h : StrsW w v) (hb : Below w.heap.size w w') : StrsW w' v := by
  obtain ⟨p, L, cap, h1, h3, h4⟩ := h
  refine ⟨p, L, cap, h1, h3, fun i hi => ?_⟩
  obtain ⟨b, off, e, h2, s, h5⟩ := h4 i hi
  exact ⟨b, off, e, Nat.lt_of_lt_of_le h2 hb.size, s, by rw [hb.cell (p := ⟨b, off + i, none⟩) h2]; exact h5⟩
theorem NdsW.below {w w' : World} {v : Value} {N : Nat} (h : NdsW w v N) (hb : Below w.heap.size w w') : NdsW w' v N := by
  obtain ⟨h0, p, cap, h1, h4⟩ := h
  refine ⟨h0, p, cap, h1, fun i hi => ?_⟩
  obtain ⟨b, off, k, r, c, e, h2, h5, h6, h7, h8, h9⟩ := h4 i hi
  exact ⟨b, off, k, r, c, e, Nat.lt_of_lt_of_le h2 hb.size, by rw [hb.cell (p := ⟨b, off + i * 4, none⟩) h2]; exact h5, by rw [hb.cell (p := ⟨b, off + i * 4 + 1, none⟩) h2]; exact h6, by rw [hb.cell (p := ⟨b, off + i * 4 + 2, none⟩) h2]; exact h7, h8.below hb, h9⟩
theorem ActsW.below {w w' : World} {v : Value} {N : Nat} (h : ActsW w v N) (hb : Below w.heap.size w w') : ActsW w' v N := by
  obtain ⟨h0, p, cap, h1, h4⟩ := h
  refine ⟨h0, p, cap, h1, fun i hi => ?_⟩
  obtain ⟨b, off, e, h2, s, h5⟩ := h4 i hi
  exact ⟨b, off, e, Nat.lt_of_lt_of_le h2 hb.size, s, by rw [hb.cell (p := ⟨b, off + i * 3 + 2, none⟩) h2]; exact h5⟩

set_option maxHeartbeats 2000000 in
theorem treeWeight_any (w : World) (v rv fv : Value) (N : Nat) (h : NdsW w v N) (hf : SlW fv) :
    Calls Tryz.prog 20 #[.agg #[v, rv, fv]] w fun e w' => (∃ m : Int, e = .returned (.int .i64 m)) ∧ Below w.heap.size w w' := by
  obtain ⟨hN, p, cap, rfl, ht⟩ := h
  obtain ⟨fp, fl, fc, rfl, hfl⟩ := hf
  have H := Lib.hid ht
  unfold maxLen at hN hfl
  clear ht
  go_enter Tryz.func20, Tryz.ntmps20
  go_wp2
  go_loopg [3, 4] (N + 1) (fun g s3 s4 wr => (∃ n es, wr = more (w.alloc (Obj.cells #[.slice p N cap, rv, .slice fp fl fc] 25)) n es) ∧ ∃ (m : Int) (k : Nat), k ≤ N ∧ g + k = N + 1 ∧ s3 = .int .i64 m ∧ s4 = .int .i64 k)
  case atStart => exact ⟨below_more (Below.refl _ _), _, 0, Nat.zero_le _, rfl, rfl, rfl⟩
  case round =>
    obtain ⟨⟨n, es, rfl⟩, m, k, hk, hg, rfl, rfl⟩ := hrel
    obtain rfl : gk = N + 1 - k := by omega
    clear hg
    by_cases hlt : k < N
    · by_cases hm : m < 1048576
      · obtain ⟨b, off, kv, r, c, rfl, hb, c0, c1, c2, ⟨kp, kl, kc, rfl, hkl, hks⟩, ⟨rp, rl, rc, rfl, hrl⟩, ⟨cp, cl, cc, rfl, hcl⟩⟩ := H.out k hlt
        have HKS := Lib.hid hks
        have hL : Lt b w.heap.size := hb
        have hkN : (k : Int) < (N : Int) := by omega
        have hdm : decide (m < 1048576) = true := decide_eq_true hm
        unfold maxLen at hkl hrl hcl
        clear hks H
        go_wp2_with fail
        (refine wp_region_quiet_more (by kernel_rfl) (by kernel_rfl) ?_; (repeat (first | go_big_quiet_skip | quiet_step ((first | fail)))); refine wpQuiet_nil ?_; intro _ hw'; obtain ⟨⟨nq, esq⟩, hw''⟩ := hw'; subst hw''; dsimp only)
        go_wp2_with fail
        generalize IntKind.i64.wrap _ = M at *
        go_loopg [3, 5] (kl + 1) (fun g s3 s5 wr => (∃ n es, wr = more (w.alloc (Obj.cells #[.slice (some ⟨b, off, none⟩) N cap, rv, .slice fp fl fc] 25)) n es) ∧ ∃ (m2 : Int) (j : Nat), j ≤ kl ∧ g + j = kl + 1 ∧ s3 = .int .i64 m2 ∧ s5 = .int .i64 j)
        case atStart => exact ⟨below_more (by (repeat (first | exact Below.refl _ _ | assumption | refine nw_more ?_ _ _ | refine nw_alloc ?_ _ | refine nw_drew ?_ | refine nw_drewN ?_ _ | refine nw_set ?_ (by first | (simp; done) | (simp; omega) | omega) _))), M, 0, Nat.zero_le _, rfl, rfl, rfl⟩
        case round =>
          obtain ⟨⟨n, es, rfl⟩, m2, j, hj, hg2, rfl, rfl⟩ := hrel
          obtain rfl : gk = kl + 1 - j := by omega
          clear hg2
          by_cases hlt2 : j < kl
          · by_cases hm2 : m2 < 1048576
            · obtain ⟨b2, o2, rfl, hb2, s, d0⟩ := HKS.out j hlt2
              have hL2 : Lt b2 w.heap.size := hb2
              go_wp2
              go_roundg (kl + 1 - j - 1)
              case measure => omega
              case rel => exact ⟨below_more (by (repeat (first | exact Below.refl _ _ | assumption | refine nw_more ?_ _ _ | refine nw_alloc ?_ _ | refine nw_drew ?_ | refine nw_drewN ?_ _ | refine nw_set ?_ (by first | (simp; done) | (simp; omega) | omega) _))), _, j + 1, by omega, by omega, rfl, by go_num⟩
            · go_wp2
              go_roundg (N + 1 - k - 1)
              case measure => omega
              case rel => exact ⟨below_more (by (repeat (first | exact Below.refl _ _ | assumption | refine nw_more ?_ _ _ | refine nw_alloc ?_ _ | refine nw_drew ?_ | refine nw_drewN ?_ _ | refine nw_set ?_ (by first | (simp; done) | (simp; omega) | omega) _))), m2, k + 1, by omega, by omega, rfl, by go_num⟩
          · go_wp2
            go_roundg (N + 1 - k - 1)
            case measure => omega
            case rel => exact ⟨below_more (by (repeat (first | exact Below.refl _ _ | assumption | refine nw_more ?_ _ _ | refine nw_alloc ?_ _ | refine nw_drew ?_ | refine nw_drewN ?_ _ | refine nw_set ?_ (by first | (simp; done) | (simp; omega) | omega) _))), m2, k + 1, by omega, by omega, rfl, by go_num⟩
      · clear H
        go_wp2
        go_ret
        exact ⟨⟨m, rfl⟩, by (repeat (first | exact Below.refl _ _ | assumption | refine nw_more ?_ _ _ | refine nw_alloc ?_ _ | refine nw_drew ?_ | refine nw_drewN ?_ _ | refine nw_set ?_ (by first | (simp; done) | (simp; omega) | omega) _))⟩
    · have e : k = N := by omega
      clear H
      go_wp2
      go_ret
      exact ⟨⟨m, rfl⟩, by (repeat (first | exact Below.refl _ _ | assumption | refine nw_more ?_ _ _ | refine nw_alloc ?_ _ | refine nw_drew ?_ | refine nw_drewN ?_ _ | refine nw_set ?_ (by first | (simp; done) | (simp; omega) | omega) _))⟩

theorem drew_below (w : World) : Below w.heap.size w w.drew := nw_drew (Below.refl _ _)
/-- Calls in a region that only make memory: what each answers. -/
def RPost (wr : World) (R : Nat → Value → Prop) (m : Nat → Option Value) (w : World) : Prop := Below wr.heap.size wr w ∧ ∀ t x, m t = some x → R t x
theorem r_start (w : World) (R : Nat → Value → Prop) : RPost w R (fun _ => none) w.drew := ⟨drew_below w, (fun _ _ h => (nomatch h))⟩
theorem r_step {wr w w' : World} {R : Nat → Value → Prop} {m : Nat → Option Value} (h : RPost wr R m w) {t : Nat} {x : Value} (hb : Below w.heap.size w w') (hx : R t x) : RPost wr R (upd m t x) w' := by
  refine ⟨nw_trans h.1 hb, fun j y hj => ?_⟩
  by_cases e : j = t
  · subst e
    rw [upd_self] at hj
    exact Option.some.inj hj ▸ hx
  · rw [upd_ne m x e] at hj
    exact h.2 j y hj
theorem r_full {wr : World} {R : Nat → Value → Prop} {m : Nat → Option Value} {w : World} (h : RPost wr R m w) : ∀ n, (∀ t w9, t < n → Below wr.heap.size wr w9 → ∃ x w', Below w9.heap.size w9 w' ∧ R t x) → ∃ m' w', RPost wr R m' w' ∧ FullM n m' ∧ ExtM m m' := by
  intro n
  induction n with
  | zero => exact fun _ => ⟨m, w, h, fun t ht => absurd ht (Nat.not_lt_zero _), fun _ _ e => e⟩
  | succ n ih =>
    intro hex
    obtain ⟨m1, w1, p1, f1, e1⟩ := ih (fun t w9 ht => hex t w9 (by omega))
    cases hm : m1 n with
    | none =>
      obtain ⟨x, w2, hb, hx⟩ := hex n w1 (by omega) p1.1
      refine ⟨upd m1 n x, w2, r_step p1 hb hx, fun t ht => ?_, fun j y hj => ?_⟩
      · by_cases e : t = n
        · subst e; rw [upd_self]; simp
        · rw [upd_ne m1 x e]; exact f1 t (by omega)
      · have h1 := e1 j y hj
        have e : j ≠ n := fun e => by subst e; rw [hm] at h1; cases h1
        rw [upd_ne m1 x e]; exact h1
    | some y =>
      refine ⟨m1, w1, p1, fun t ht => ?_, e1⟩
      by_cases e : t = n
      · subst e; rw [hm]; simp
      · exact f1 t (by omega)

set_option maxHeartbeats 2000000 in
theorem heavy6_any (w : World) (v rv fv av : Value) (N L : Nat) (h : NdsW w v N) (hf : SlW fv) (ha : ActsW w av L) :
    Calls Tryz.prog 7 #[.agg #[v, rv, fv, av]] w fun e w' => (∃ b : Bool, e = .returned (.bool b)) ∧ Below w.heap.size w w' := by
  have HN := Lib.hid h
  have HF := Lib.hid hf
  obtain ⟨-, p, cap, rfl, -⟩ := h
  obtain ⟨fp, fl, fc, rfl, -⟩ := hf
  obtain ⟨hL, ap, acap, rfl, ht⟩ := ha
  have H := Lib.hid ht
  unfold maxLen at hL
  clear ht
  go_enter Tryz.func7, Tryz.ntmps7
  go_upto_region 1 with (fail)
  have hbox : Below w.heap.size w (w.alloc (Obj.cells #[.slice p N cap, rv, .slice fp fl fc, .slice ap L acap] 28)) := by (repeat (first | exact Below.refl _ _ | assumption | refine nw_more ?_ _ _ | refine nw_alloc ?_ _ | refine nw_drew ?_ | refine nw_drewN ?_ _ | refine nw_set ?_ (by first | (simp; done) | (simp; omega) | omega) _))
  have HX : Hid (Blc (w.alloc (Obj.cells #[.slice p N cap, rv, .slice fp fl fc, .slice ap L acap] 28)) w.heap.size 28 #[.slice p N cap, rv, .slice fp fl fc, .slice ap L acap]) := Lib.hid (Blc.new _ _ _)
  have HN2 := Lib.hid (HN.out.below hbox)
  generalize (w.alloc (Obj.cells #[.slice p N cap, rv, .slice fp fl fc, .slice ap L acap] 28)) = wr at *
  have x0 := HX.out.cell 0
  have x1 := HX.out.cell 1
  have x2 := HX.out.cell 2
  have x3 := HX.out.cell 3
  have xl : Lt w.heap.size wr.heap.size := HX.out.lt
  simp only [List.getElem?_toArray, List.getElem?_cons_succ, List.getElem?_cons_zero] at x0 x1 x2 x3
  have HT := Lib.hid (fun (w9 : World) (hb : Below wr.heap.size wr w9) => treeWeight_any w9 _ rv _ N (HN2.out.below hb) HF.out)
  obtain ⟨C0, hC0⟩ : ∃ C0 : World → Prop, ∀ w9, C0 w9 ↔ (w9.cell? ⟨w.heap.size, 0, none⟩ = some (.slice p N cap) ∧ w9.cell? ⟨w.heap.size, 1, none⟩ = some rv ∧ w9.cell? ⟨w.heap.size, 2, none⟩ = some (.slice fp fl fc) ∧ w9.cell? ⟨w.heap.size, 3, none⟩ = some (.slice ap L acap)) := ⟨_, fun _ => Iff.rfl⟩
  have hCall : ∀ w9, Below wr.heap.size wr w9 → C0 w9 := fun w9 hb => (hC0 _).2 ⟨(hb.cell (p := ⟨w.heap.size, 0, none⟩) xl).trans x0, (hb.cell (p := ⟨w.heap.size, 1, none⟩) xl).trans x1, (hb.cell (p := ⟨w.heap.size, 2, none⟩) xl).trans x2, (hb.cell (p := ⟨w.heap.size, 3, none⟩) xl).trans x3⟩
  refine wp_region_par [2, 5, 7] [#[.tmp 6], #[.tmp 9], #[.tmp 11]] (fun t j => t == 2 && decide (j < 2)) (by kernel_rfl) (by kernel_rfl) (fun m => by kernel_rfl) (fun w9 => ∃ p : Among C0, w9 = p.w) (fun t m => match t with
    | 0 => #[.agg #[.slice p N cap, rv, .slice fp fl fc]]
    | 1 => #[.slice ap L acap]
    | _ => #[.int .i64 (IntKind.i64.wrap (intOf ((m 0).getD undef) + (L : Int)))]) (RPost wr (fun t x => ∃ i : Int, x = .int .i64 i ∧ (t = 1 → i = L))) (r_start wr _) (fun m w9 hp _ => ⟨⟨w9, hCall w9 hp.1⟩, rfl⟩) (fun m w9 hp => r_full hp _ (fun _ w9 _ _ => ⟨_, w9, Below.refl _ _, L, rfl, fun _ => rfl⟩)) (fun t m m' ht hpre hext => ?hdep) ?hstep ?hwalk
  case hdep =>
    match t, ht with
    | 0, _ => rfl
    | 1, _ => rfl
    | 2, _ =>
      obtain ⟨x, hx⟩ := Option.ne_none_iff_exists'.1 (hpre 0 (by decide) rfl)
      simp only [hx, hext _ _ hx]
  case hstep =>
    intro t m w9 o hp ht hmt hpre ho a next hargs hn
    match t, ht with
    | 0, _ =>
      obtain rfl := Option.some.inj ho
      have e1 : a.eval (.tmp 6) = .agg #[.slice p N cap, rv, .slice fp fl fc] := by simpa using congrArg (fun (x : Array Value) => x.getD 0 undef) hargs
      unfold Oper.wp execOp
      have e2 : a.tmps[6]?.getD undef = .agg #[.slice p N cap, rv, .slice fp fl fc] := by simpa [go_sem] using e1
      simp [e2, go_sem]
      refine (HT.out w9 hp.1).mono ?_
      rintro e w' ⟨⟨tw, rfl⟩, hb⟩
      exact hn _ _ (r_step hp hb ⟨tw, rfl, fun e => by cases e⟩)
    | 1, _ =>
      obtain rfl := Option.some.inj ho
      have e1 : a.eval (.tmp 9) = .slice ap L acap := by simpa using congrArg (fun (x : Array Value) => x.getD 0 undef) hargs
      unfold Oper.wp execOp
      have e2 : a.tmps[9]?.getD undef = .slice ap L acap := by simpa [go_sem] using e1
      simp [e2, go_sem]
      exact hn _ _ (r_step hp (Below.refl _ _) ⟨_, rfl, fun _ => rfl⟩)
    | 2, _ =>
      obtain rfl := Option.some.inj ho
      have e1 : a.eval (.tmp 11) = .int .i64 (IntKind.i64.wrap (intOf ((m 0).getD undef) + (L : Int))) := by simpa using congrArg (fun (x : Array Value) => x.getD 0 undef) hargs
      unfold Oper.wp execOp
      have e2 : a.tmps[11]?.getD undef = .int .i64 (IntKind.i64.wrap (intOf ((m 0).getD undef) + (L : Int))) := by simpa [go_sem] using e1
      simp [e2, go_sem]
      exact hn _ _ (r_step hp (Below.refl _ _) ⟨_, rfl, fun e => by cases e⟩)
  case hwalk =>
    intro m w9 hp hF
    obtain ⟨v0, h0⟩ := Option.ne_none_iff_exists'.1 (hF 0 (by decide))
    obtain ⟨v1, h1⟩ := Option.ne_none_iff_exists'.1 (hF 1 (by decide))
    obtain ⟨v2, h2⟩ := Option.ne_none_iff_exists'.1 (hF 2 (by decide))
    obtain ⟨tw, rfl, -⟩ := hp.2 0 v0 h0
    obtain ⟨tl, rfl, htl⟩ := hp.2 1 v1 h1
    obtain rfl := htl rfl
    obtain ⟨tm, rfl, -⟩ := hp.2 2 v2 h2
    have HB9 := Lib.hid hp.1
    simp only [opsP, dumP, posOf, Nat.reduceAdd, Nat.reduceEqDiff, if_false, if_true, Option.map_none, Option.map_some, h0, h1, h2, Option.getD_some]
    have c0 : ∀ p : Among C0, p.w.cell? ⟨w.heap.size, 0, none⟩ = some (.slice _ N cap) := fun p => ((hC0 _).1 p.ok).1
    have c1 : ∀ p : Among C0, p.w.cell? ⟨w.heap.size, 1, none⟩ = some rv := fun p => ((hC0 _).1 p.ok).2.1
    have c2 : ∀ p : Among C0, p.w.cell? ⟨w.heap.size, 2, none⟩ = some (.slice fp fl fc) := fun p => ((hC0 _).1 p.ok).2.2.1
    have c3 : ∀ p : Among C0, p.w.cell? ⟨w.heap.size, 3, none⟩ = some (.slice ap L acap) := fun p => ((hC0 _).1 p.ok).2.2.2
    have hinh : Nonempty (Among C0) := ⟨⟨wr, (hC0 _).2 ⟨x0, x1, x2, x3⟩⟩⟩
    (repeat (first | go_big_quiet_skip | quiet_step (fail)))
    refine ⟨fun j hj => ?_, ?_⟩
    · match j, hj with
      | 0, _ => simp [go_sem]
      | 1, _ => simp [go_sem]
      | 2, _ => simp [go_sem, h0, intOf]
    · clear c0 c1 c2 c3 hinh hCall hC0 h0 h1 h2 hF HT
      have HXa := Lib.hid (HX.out.below HB9.out)
      have H2 : Hid (ActsW w9 (.slice ap L acap) L) := Lib.hid (ActsW.below ⟨by unfold maxLen; omega, ap, acap, rfl, H.out⟩ (nw_trans hbox HB9.out))
      have hbw : Below w.heap.size w w9 := nw_trans hbox HB9.out
      clear HX x0 x1 x2 x3 xl H HN HN2 HB9 hbox hp
      have x3 := HXa.out.cell 3
      have xl : Lt w.heap.size w9.heap.size := HXa.out.lt
      simp only [List.getElem?_toArray, List.getElem?_cons_succ, List.getElem?_cons_zero] at x3
      have H : Hid (∀ i, i < L → ∃ b off, ap = some ⟨b, off, none⟩ ∧ b < w9.heap.size ∧ ∃ s : ByteArray, w9.cell? ⟨b, off + i * 3 + 2, none⟩ = some (.string s)) := Lib.hid (fun i hi => by
        obtain ⟨-, p9, c9, e9, h9⟩ := H2.out
        simp only [Value.slice.injEq, true_and] at e9
        obtain ⟨rfl, -⟩ := e9
        exact h9 i hi)
      go_wp2_with fail
      go_loopg [3, 4] (L + 1) (fun g s3 s4 wx => w9 = wx ∧ ∃ (m : Int) (k : Nat), k ≤ L ∧ g + k = L + 1 ∧ s3 = .int .i64 m ∧ s4 = .int .i64 k)
      case atStart => exact ⟨rfl, _, 0, Nat.zero_le _, rfl, rfl, rfl⟩
      case round =>
        obtain ⟨rfl, m, k, hk, hg, rfl, rfl⟩ := hrel
        obtain rfl : gk = L + 1 - k := by omega
        clear hg
        by_cases hlt : k < L
        · by_cases hm : m < 1048576
          · obtain ⟨b, off, rfl, hb, s, c2⟩ := H.out k hlt
            have hL : Lt b w9.heap.size := hb
            go_wp2
            go_roundg (L + 1 - k - 1)
            case measure => omega
            case rel => exact ⟨rfl, _, k + 1, by omega, by omega, rfl, by go_num⟩
          · clear H
            go_wp2
            go_ret
            exact ⟨by first | exact ⟨_, ret_bool rfl⟩ | (cases hd : decide (900 < m) with | false => exact .inl (ret_bool rfl) | true => exact .inr (ret_bool rfl)), hbw⟩
        · have e : k = L := by omega
          clear H
          go_wp2
          go_ret
          exact ⟨by first | exact ⟨_, ret_bool rfl⟩ | (cases hd : decide (900 < m) with | false => exact .inl (ret_bool rfl) | true => exact .inr (ret_bool rfl)), hbw⟩
end Go.Proofs.YtaophiknldkfdaaGreatDoor
