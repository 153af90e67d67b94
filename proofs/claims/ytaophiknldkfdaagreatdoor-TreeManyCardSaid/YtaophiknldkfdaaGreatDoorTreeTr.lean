/- Contract of the page's own word on trees. -/
import Derived.Test.YtaophiknldkfdaaGreatDoorTreeTq
import Derived.Deep.RegionWith
import Derived.OwnWalk
namespace Go.Proofs.YtaophiknldkfdaaGreatDoor
open Go.RowKit

theorem freeFrom_at {α : Type} {t : Tr α} {F : List Int} : ∀ {m : Int}, freeFrom t m F = true → ∀ (i : Nat) (n : Int), F[i]? = some n → m ≤ n ∧ ∃ x, t.at n = some x ∧ zeroB x = true := by
  induction F with
  | nil => intro m _ i n h; simp at h
  | cons a r ih =>
    intro m h i n hn
    simp only [freeFrom, Bool.and_eq_true, decide_eq_true_eq] at h
    obtain ⟨h1, h2⟩ := h
    cases hx : t.at a with
    | none => rw [hx] at h2; cases h2
    | some x =>
      rw [hx] at h2
      simp only [Bool.and_eq_true] at h2
      cases i with
      | zero =>
        simp at hn
        subst hn
        exact ⟨h1, x, hx, h2.1⟩
      | succ i =>
        obtain ⟨g1, g2⟩ := ih h2.2 i n (by simpa using hn)
        exact ⟨by omega, g2⟩
theorem freeFrom_rise {α : Type} {t : Tr α} {F : List Int} : ∀ {m : Int}, freeFrom t m F = true → ∀ (i : Nat) (a b : Int), F[i]? = some a → F[i + 1]? = some b → a < b := by
  induction F with
  | nil => intro m _ i a b h; simp at h
  | cons c r ih =>
    intro m h i a b ha hb
    simp only [freeFrom, Bool.and_eq_true, decide_eq_true_eq] at h
    obtain ⟨h1, h2⟩ := h
    cases hx : t.at c with
    | none => rw [hx] at h2; cases h2
    | some x =>
      rw [hx] at h2
      simp only [Bool.and_eq_true] at h2
      cases i with
      | zero =>
        simp at ha hb
        subst ha
        have := (freeFrom_at h2.2 0 b (by simpa using hb)).1
        omega
      | succ i => exact ih h2.2 i a b (by simpa using ha) (by simpa using hb)
theorem zeroB_parts {α : Type} {n : Nd α} (h : zeroB n = true) : n.keys.length = 0 ∧ n.rows.length = 0 ∧ n.kids.length = 0 ∧ n.leaf = false := by
  unfold zeroB at h
  simp only [Bool.and_eq_true, decide_eq_true_eq] at h
  exact ⟨h.1, h.2.1, h.2.2.1, by simpa using h.2.2.2⟩
theorem treeW_parts {α : Type} {K : Ks α} {t : Tr α} {rows : List (α × Int)} {d : Nat} (h : treeW K t = some (rows, d)) :
    t.nodes.length ≤ 200 ∧ freeFrom t 0 t.free = true ∧ ∃ s, nodeW K t 20 ⟨List.replicate t.nodes.length false, 0, []⟩ t.root (none, none) 1 = some s ∧ allSeen t 0 s.seen = true ∧ s.rows = rows ∧ s.deep = d := by
  unfold treeW at h
  split at h
  · rename_i hg
    split at h
    · cases h
    · rename_i s hs
      split at h
      · rename_i ha
        simp only [Option.some.injEq, Prod.mk.injEq] at h
        exact ⟨hg.1, hg.2, s, hs, ha, h.1, h.2⟩
      · cases h
  · cases h
theorem allSeen_at {α : Type} {t : Tr α} {l : List Bool} : ∀ {i : Nat}, allSeen t i l = true → ∀ (k : Nat) (b : Bool), l[k]? = some b → (b || t.free.contains ((i + k : Nat) : Int)) = true := by
  induction l with
  | nil => intro i _ k b h; simp at h
  | cons a r ih =>
    intro i h k b hb
    simp only [allSeen, Bool.and_eq_true] at h
    cases k with
    | zero =>
      simp at hb
      subst hb
      exact h.1
    | succ k =>
      have := ih h.2 k b (by simpa using hb)
      rw [show i + (k + 1) = i + 1 + k by omega]
      exact this

set_option maxRecDepth 100000 in
set_option maxHeartbeats 8000000 in
theorem tree_any {α : Type} (K : Ks α) (B : Nat) (w : World) (v u : Value) (r : Int) (P : List (Nv α)) (F : List Int) (rows : List (α × Int)) (d : Nat) (hT : TreeIn K B w v u P F) (hsm : ∀ x ∈ P, ∀ q ∈ x.n.rows, q < 100) (h : treeW K (Tr.mk (ndsOf P) r F) = some (rows, d)) (hrl : rows.length ≤ 100000) :
    Calls Tryz.prog 17 #[.agg #[v, .int .i64 r, u]] w fun e w' => ∃ p c, e = .returned (.tuple #[.slice p rows.length c, .int .i64 d, .bool true]) ∧ Below w.heap.size w w' := by
  obtain ⟨hN, hfree, s, hnode, hall, hrows, hdeep⟩ := treeW_parts h
  have hN' : P.length ≤ 200 := by
    have : (ndsOf P).length ≤ 200 := hN
    rwa [nds_len] at this
  subst hrows hdeep
  have HT := Lib.hid hT
  have HFR := Lib.hid hfree
  have HND := Lib.hid hnode
  have HAL := Lib.hid hall
  have HSM := Lib.hid hsm
  have hF := hT.2
  obtain ⟨np, nc, rfl, -, hnc, hnat⟩ := hT.1.at
  obtain ⟨fp, fc, rfl, hFl, hfat⟩ := hF.at
  have HNA := Lib.hid hnat
  have HFA := Lib.hid hfat
  have HF := Lib.hid hF
  clear hT hfree hnode hall hsm hnat hfat hF h hN
  have h200 : ¬ (200 : Int) < (P.length : Int) := by omega
  go_enter Tryz.func17, Tryz.ntmps17
  go_upto_region 4 with (fail)
  go_loopg [5] (F.length + 1) (fun g s5 wr => (∃ n es, wr = more (w.alloc (Obj.cells #[.slice np P.length nc, .int .i64 r, .slice fp F.length fc] 25)) n es) ∧ ∃ k : Nat, k ≤ F.length ∧ g + k = F.length + 1 ∧ s5 = .int .i64 k)
  case atStart => exact ⟨below_more (Below.refl _ _), 0, Nat.zero_le _, by omega, rfl⟩
  case round =>
    obtain ⟨⟨n, es, rfl⟩, k, hk, hg, rfl⟩ := hrel
    obtain rfl : gk = F.length + 1 - k := by omega
    clear hg
    by_cases hlt : k < F.length
    · obtain ⟨fb, fo, fx, rfl, hfb, hfc, -, hfx⟩ := HFA.out k hlt
      obtain ⟨hf0, x, hat, hzero⟩ := freeFrom_at HFR.out k fx hfx
      obtain ⟨q, hq⟩ : ∃ q : Nat, fx = q := ⟨fx.toNat, by omega⟩
      subst hq
      have hPq : (ndsOf P)[q]? = some x := by
        unfold Tr.at at hat
        rw [if_pos hf0] at hat
        simpa using hat
      have hqP : q < P.length := by
        have := (List.getElem?_eq_some_iff.1 hPq).1
        rwa [nds_len] at this
      obtain ⟨nb, no, y, rfl, hnb, n0, n1, n2, n3, hy, hPy⟩ := HNA.out q hqP
      obtain rfl : y.n = x := by
        unfold ndsOf at hPq
        rw [List.getElem?_map, hPy] at hPq
        simpa using hPq
      obtain ⟨z1, z2, z3, z4⟩ := zeroB_parts hzero
      obtain ⟨kp, kc, hkv, -⟩ := hy.1.at
      obtain ⟨rp, rc, hrv, -⟩ := hy.2.1.at
      obtain ⟨cp, cc, hcv, -⟩ := hy.2.2.at
      rw [hkv, z1] at n0
      rw [hrv, z2] at n1
      rw [hcv, z3] at n2
      rw [z4] at n3
      have HNB : Hid (numB (q : Int) ((P.length : Int) - 1) = true) := Lib.hid (by unfold numB; simp; omega)
      have hkF : (k : Int) < (F.length : Int) := by omega
      have hqP2 : (q : Int) < (P.length : Int) := by omega
      have hw1 : IntKind.i64.wrap ((P.length : Int) - 1) = (P.length : Int) - 1 := IntWalk.i64_in _ (by omega)
      clear hat hPq hPy hkv hrv hcv z1 z2 z3 z4 hzero hy
      by_cases hk0 : k = 0
      · subst hk0
        simp only [Nat.add_zero] at hfc
        clear hfx
        go_wp2_with fail
        (refine wp_region_quiet_more (by kernel_rfl) (by kernel_rfl) ?_; (repeat (first | go_big_quiet_skip | quiet_step ((first | (go_at_call 32; exact Calls.more_same_bool _ HNB.out (numB_any _ _ _)) | (go_at_call 33; exact Calls.more_of (eqNode0_any _ _ _ _ _ _ _ _ _ _ _ _ _)))))); refine wpQuiet_nil ?_; intro _ hw'; obtain ⟨⟨nq, esq⟩, hw''⟩ := hw'; subst hw''; dsimp only)
        go_wp2
        go_roundg (F.length + 1 - 0 - 1)
        case measure => omega
        case rel => exact ⟨below_more (by (repeat (first | exact Below.refl _ _ | assumption | refine nw_more ?_ _ _ | refine nw_alloc ?_ _ | refine nw_drew ?_ | refine nw_drewN ?_ _ | refine nw_set ?_ (by first | (simp; done) | (simp; omega) | omega) _))), 0 + 1, by omega, by omega, by go_num⟩
      · obtain ⟨j, hkj⟩ : ∃ j, k = j + 1 := ⟨k - 1, by omega⟩
        obtain ⟨fb', fo', px, ekp, -, hpc, -, hpx⟩ := HFA.out j (by omega)
        simp only [Option.some.injEq, Addr.mk.injEq, and_true] at ekp
        obtain ⟨rfl, rfl⟩ := ekp
        have hrise : px < (q : Int) := freeFrom_rise HFR.out j px q hpx (by rw [← hkj]; exact hfx)
        have w1 : IntKind.i64.wrap ((k : Int) - 1) = (j : Int) := by rw [IntWalk.i64_in _ (by omega)]; omega
        have hj2 : (j : Int) < (F.length : Int) := by omega
        have hk1 : (0 : Int) < (k : Int) := by omega
        have hk2 : 0 < k := by omega
        have hdk : decide ((0 : Int) < (k : Int)) = true := decide_eq_true hk1
        have hdk2 : decide (0 < k) = true := decide_eq_true hk2
        have hrise2 : decide ((q : Int) ≤ px) = false := decide_eq_false (by omega)
        have HKJ := Lib.hid hkj
        clear hfx hpx hkj
        go_wp2_with fail
        (refine wp_region_quiet_more (by kernel_rfl) (by kernel_rfl) ?_; (repeat (first | go_big_quiet_skip | quiet_step ((first | (go_at_call 32; exact Calls.more_same_bool _ HNB.out (numB_any _ _ _)) | (go_at_call 33; exact Calls.more_of (eqNode0_any _ _ _ _ _ _ _ _ _ _ _ _ _)))))); refine wpQuiet_nil ?_; intro _ hw'; obtain ⟨⟨nq, esq⟩, hw''⟩ := hw'; subst hw''; dsimp only)
        go_wp2
        go_roundg (F.length + 1 - k - 1)
        case measure => omega
        case rel => exact ⟨below_more (by (repeat (first | exact Below.refl _ _ | assumption | refine nw_more ?_ _ _ | refine nw_alloc ?_ _ | refine nw_drew ?_ | refine nw_drewN ?_ _ | refine nw_set ?_ (by first | (simp; done) | (simp; omega) | omega) _))), k + 1, by omega, by omega, by go_num⟩
    · have hkF : ¬ (k : Int) < (F.length : Int) := by omega
      have HTn : Hid (TreeIn K B (more (w.alloc (Obj.cells #[.slice np P.length nc, .int .i64 r, .slice fp F.length fc] 25)) n es) (.slice np P.length nc) (.slice fp F.length fc) P F) := Lib.hid ⟨HT.out.1.below (by (repeat (first | exact Below.refl _ _ | assumption | refine nw_more ?_ _ _ | refine nw_alloc ?_ _ | refine nw_drew ?_ | refine nw_drewN ?_ _ | refine nw_set ?_ (by first | (simp; done) | (simp; omega) | omega) _))), HT.out.2.below (by (repeat (first | exact Below.refl _ _ | assumption | refine nw_more ?_ _ _ | refine nw_alloc ?_ _ | refine nw_drew ?_ | refine nw_drewN ?_ _ | refine nw_set ?_ (by first | (simp; done) | (simp; omega) | omega) _)))⟩
      have HB8 : Hid (Below w.heap.size w (more (w.alloc (Obj.cells #[.slice np P.length nc, .int .i64 r, .slice fp F.length fc] 25)) n es)) := Lib.hid (by (repeat (first | exact Below.refl _ _ | assumption | refine nw_more ?_ _ _ | refine nw_alloc ?_ _ | refine nw_drew ?_ | refine nw_drewN ?_ _ | refine nw_set ?_ (by first | (simp; done) | (simp; omega) | omega) _)))
      have HBX : Hid (Blc (more (w.alloc (Obj.cells #[.slice np P.length nc, .int .i64 r, .slice fp F.length fc] 25)) n es) w.heap.size 25 #[.slice np P.length nc, .int .i64 r, .slice fp F.length fc]) := Lib.hid ((Blc.new _ _ _).mre _ _)
      go_upto_region 8 with (fail)
      generalize (more (w.alloc (Obj.cells #[.slice np P.length nc, .int .i64 r, .slice fp F.length fc] 25)) n es) = W8 at *
      have x0 := HBX.out.cell 0
      have x1 := HBX.out.cell 1
      have x2 := HBX.out.cell 2
      have hxl : Lt w.heap.size W8.heap.size := HBX.out.lt
      simp only [List.getElem?_toArray, List.getElem?_cons_succ, List.getElem?_cons_zero] at x0 x1 x2
      obtain ⟨i0, hi, hz0, hz1, hz2⟩ := info_parts info_bool
      have HI := Lib.hid hi
      clear hi HNA HFA
      have HND2 : Hid (nodeW K (Tr.mk (ndsOf P) r F) 20 ⟨List.replicate P.length false, 0, []⟩ r (none, none) 1 = some s) := Lib.hid (by have := HND.out; rw [nds_len] at this; exact this)
      clear HND
      obtain ⟨C0, hC0⟩ : ∃ C0 : World → Prop, ∀ w9, C0 w9 ↔ (w9.cell? ⟨w.heap.size, 0, none⟩ = some (.slice np P.length nc) ∧ w9.cell? ⟨w.heap.size, 1, none⟩ = some (.int .i64 r) ∧ w9.cell? ⟨w.heap.size, 2, none⟩ = some (.slice fp F.length fc)) := ⟨_, fun _ => Iff.rfl⟩
      have hCall : ∀ j vs w9, TrPost W8 (.slice np P.length nc) (.slice fp F.length fc) r P.length j vs w9 → C0 w9 := fun j vs w9 hp => by
        have hb := tr_below hp
        exact (hC0 _).2 ⟨(hb.cell (p := ⟨w.heap.size, 0, none⟩) hxl).trans x0, (hb.cell (p := ⟨w.heap.size, 1, none⟩) hxl).trans x1, (hb.cell (p := ⟨w.heap.size, 2, none⟩) hxl).trans x2⟩
      refine wp_region_seq [3, 4, 6, 7] [#[.tmp 64], #[.tmp 65, .tmp 65], #[.tmp 67], #[.tmp 68]] (by kernel_rfl) (by kernel_rfl) (fun vs => by kernel_rfl) (fun w9 => ∃ p : Among C0, w9 = p.w) (fun j vs => match j with
        | 0 => #[.slice np P.length nc]
        | 1 => #[vs.getD 0 undef, vs.getD 0 undef]
        | 2 => #[.agg #[.slice np P.length nc, .int .i64 r, .slice fp F.length fc, vs.getD 1 undef, .int .i64 0, .slice none 0 0, .bool false]]
        | _ => #[vs.getD 2 undef]) (TrPost W8 (.slice np P.length nc) (.slice fp F.length fc) r P.length) rfl (fun j vs w9 hp hj => ⟨⟨w9, hCall j vs w9 hp⟩, rfl⟩) (fun j vs w9 hp => tr_len hp) (fun j vs w9 hp hj => tr_ext hp hj) ?hstep ?hwalk
      case hstep =>
        intro j vs w9 o hp hj ho a next hargs hn
        unfold TrPost at hp
        split at hp
        · subst hp
          obtain rfl := Option.some.inj ho
          have e1 : a.eval (.tmp 64) = .slice np P.length nc := by simpa using congrArg (fun (x : Array Value) => x.getD 0 undef) hargs
          unfold Oper.wp execOp
          have e2 : a.tmps[64]?.getD undef = .slice np P.length nc := by simpa [go_sem] using e1
          simp [e2, go_sem]
          exact hn _ _ ⟨rfl, rfl⟩
        · obtain ⟨rfl, rfl⟩ := hp
          obtain rfl := Option.some.inj ho
          have e1 : a.eval (.tmp 65) = .int .i64 P.length := by simpa using congrArg (fun (x : Array Value) => x.getD 0 undef) hargs
          obtain ⟨w1, hrun, hown, hgr⟩ := run_make_full (P := Tryz.prog) W8.drew (W8.heap.size) 73 4 i0 (.bool false) 1 Tryz.underlying73 HI.out hz0 hz1 .i64 .i64 P.length (by rw [hz2]; omega) (by unfold maxLen; omega) (Nat.le_refl _)
          unfold Oper.wp
          simp [execOp, e1, hrun, Result.andThen]
          refine hn _ _ ⟨rfl, ?_, ?_⟩
          · have h := blc_of_own hown
            have e2 : (madeCells (Value.bool false).cells (P.length * 1)).toList = (List.replicate P.length false).map Value.bool := by
              rw [Nat.mul_one, List.map_replicate]; exact toList_madeCells_one _ _
            rw [e2] at h
            exact h
          · exact Below.grown (nw_drew (Below.refl _ _)) hgr (Nat.le_refl _) (fun k hk => by cases hk)
        · obtain ⟨rfl, h2, h3⟩ := hp
          obtain rfl := Option.some.inj ho
          have e1 : a.eval (.tmp 67) = .agg #[.slice np P.length nc, .int .i64 r, .slice fp F.length fc, .slice (some ⟨W8.heap.size, 0, none⟩) P.length P.length, .int .i64 0, .slice none 0 0, .bool false] := by simpa using congrArg (fun (x : Array Value) => x.getD 0 undef) hargs
          unfold Oper.wp execOp
          have e2 : a.tmps[67]?.getD undef = .agg #[.slice np P.length nc, .int .i64 r, .slice fp F.length fc, .slice (some ⟨W8.heap.size, 0, none⟩) P.length P.length, .int .i64 0, .slice none 0 0, .bool false] := by simpa [go_sem] using e1
          simp [e2, go_sem]
          exact hn _ _ ⟨rfl, _, rfl, h2.lt, h2.alloc _, Blc.new _ _ _, nw_alloc h3 _⟩
        · obtain ⟨rfl, g, rfl, h3, h4, h5, h6⟩ := hp
          obtain rfl := Option.some.inj ho
          have e1 : a.eval (.tmp 68) = .pointer (some ⟨g, 0, none⟩) := by simpa using congrArg (fun (x : Array Value) => x.getD 0 undef) hargs
          unfold Oper.wp execOp
          have e2 : a.tmps[68]?.getD undef = .pointer (some ⟨g, 0, none⟩) := by simpa [go_sem] using e1
          simp [e2, go_sem]
          exact hn _ _ ⟨rfl, rfl, g, rfl, h3, h4, h5, h6⟩
        · simp at hj
        · cases hp
      case hwalk =>
        intro vs w9 hp
        obtain ⟨v1, v2, v3, v4, rfl⟩ := tr_four hp
        obtain ⟨rfl, rfl, g, rfl, hg, hs9, hw9, hb9⟩ : TrPost W8 (.slice np P.length nc) (.slice fp F.length fc) r P.length 4 [v1, v2, v3, v4] w9 := hp
        simp only [opsSeq, dum, posOf, Nat.reduceAdd, Nat.reduceEqDiff, if_false, if_true, Option.map_none, Option.map_some, List.getD_cons_zero, List.getD_cons_succ]
        have c0 : ∀ p : Among C0, p.w.cell? ⟨w.heap.size, 0, none⟩ = some (.slice np P.length nc) := fun p => ((hC0 _).1 p.ok).1
        have c1 : ∀ p : Among C0, p.w.cell? ⟨w.heap.size, 1, none⟩ = some (.int .i64 r) := fun p => ((hC0 _).1 p.ok).2.1
        have c2 : ∀ p : Among C0, p.w.cell? ⟨w.heap.size, 2, none⟩ = some (.slice fp F.length fc) := fun p => ((hC0 _).1 p.ok).2.2
        have hinh : Nonempty (Among C0) := ⟨⟨W8, (hC0 _).2 ⟨x0, x1, x2⟩⟩⟩
        have HW9 : Hid (WkIn W8.heap.size w9 g W8.heap.size P.length (.slice np P.length nc) (.slice fp F.length fc) r (⟨List.replicate P.length false, 0, []⟩ : Wk α)) := Lib.hid (wkIn_first hs9 hw9)
        have HB9 := Lib.hid hb9
        have HG := Lib.hid hg
        clear hs9 hw9 hb9 hg
        (repeat (first | go_big_quiet_skip | quiet_step (fail)))
        refine ⟨fun j hj => ?_, ?_⟩
        · match j, hj with
          | 0, _ => simp [go_sem]
          | 1, _ => simp [go_sem]
          | 2, _ => simp [go_sem]
          | 3, _ => simp [go_sem]
        · clear c0 c1 c2 x0 x1 x2 hCall hC0 hinh
          have x0 := (HB9.out.cell (p := ⟨w.heap.size, 0, none⟩) hxl).trans (HBX.out.cell 0)
          have x1 := (HB9.out.cell (p := ⟨w.heap.size, 1, none⟩) hxl).trans (HBX.out.cell 1)
          have hxl9 : Lt w.heap.size w9.heap.size := Nat.lt_of_lt_of_le hxl HB9.out.size
          simp only [List.getElem?_toArray, List.getElem?_cons_succ, List.getElem?_cons_zero] at x0 x1
          have HNO := Lib.hid (node_any K P F B W8 (.slice np P.length nc) (.slice fp F.length fc) g W8.heap.size r HTn.out (Nat.le_of_lt HG.out) (Nat.le_refl _) (by have := HG.out; omega) HSM.out 20 w9 _ s r (none, none) 1 _ _ true (by omega) (by omega) HB9.out HW9.out (by simp) ⟨rfl, rfl, rfl⟩ HND2.out hrl)
          go_wp2_with fail
          refine HNO.out.mono ?_
          rintro e w' ⟨rfl, hfin⟩
          have HWF := Lib.hid hfin.out.1
          have HSF := Lib.hid hfin.out.2
          clear hfin HNO x0 x1 hxl9
          have HSL : Hid (s.seen.length = P.length) := Lib.hid (by
            have := (nodeW_grew 20 HND2.out).1
            simpa using this)
          obtain ⟨rv, ys, b1, b2, b3⟩ := HWF.out
          obtain ⟨rp, rc, rfl⟩ := slice_any b3
          have d3 := b1.cell 3
          have d4 := b1.cell 4
          have d5 := b1.cell 5
          have d6 := b1.cell 6
          have hgl : Lt g w'.heap.size := b1.lt
          have hsl : Lt W8.heap.size w'.heap.size := b2.lt
          have HBF : Hid (Below W8.heap.size W8 w') := Lib.hid (HB9.out.trans HSF.out.below)
          have x2 := (HBF.out.cell (p := ⟨w.heap.size, 2, none⟩) hxl).trans (HBX.out.cell 2)
          have hxl2 : Lt w.heap.size w'.heap.size := Nat.lt_of_lt_of_le hxl HBF.out.size
          have HBW : Hid (Below w.heap.size w w') := Lib.hid (nw_trans HB8.out HBF.out)
          simp only [List.getElem?_toArray, List.getElem?_cons_succ, List.getElem?_cons_zero] at d3 d4 d5 d6 x2
          have HSE : Hid (∀ i : Nat, i < P.length → w'.cell? ⟨W8.heap.size, i, none⟩ = some (.bool (s.seen.getD i true))) := Lib.hid (fun i hi => by
            rw [b2.cell i]
            have : i < s.seen.length := by rw [HSL.out]; exact hi
            simp [List.getD, this])
          have HAL2 : Hid (∀ i : Nat, i < P.length → s.seen.getD i true = false → 0 ≤ idxL F i) := Lib.hid (fun i hi hb => by
            have hlt : i < s.seen.length := by rw [HSL.out]; exact hi
            have h1 := allSeen_at HAL.out i (s.seen.getD i true) (by simp [List.getD, hlt])
            rw [hb, Nat.zero_add] at h1
            exact idx_has (l := F) (by simpa [has] using h1))
          clear b1 b2 b3
          go_wp2_with fail
          go_loopg [7] (P.length + 1) (fun g s7 wx => ∃ i : Nat, i ≤ P.length ∧ g + i = P.length + 1 ∧ s7 = .int .i64 i ∧ w' = wx)
          case atStart => exact ⟨0, Nat.zero_le _, by omega, rfl, rfl⟩
          case round =>
            obtain ⟨i, hiP, hgi, rfl, rfl⟩ := hrel
            obtain rfl : gk = P.length + 1 - i := by omega
            clear hgi
            by_cases hlt2 : i < P.length
            · have s1 := HSE.out i hlt2
              have hlt3 : (i : Int) < (P.length : Int) := by omega
              cases hb : s.seen.getD i true
              · rw [hb] at s1
                have hidx := HAL2.out i hlt2 hb
                have hidx2 : ¬ idxL F i < 0 := by omega
                go_wp2_with (first | (go_at_call 35; refine (in_any _ _ F _ (HF.out.stays (Stays.of HBW.out)).toAt).mono ?_; rintro e w' ⟨rfl, rfl⟩))
                go_roundg (P.length + 1 - i - 1)
                case measure => omega
                case rel => exact ⟨i + 1, by omega, by omega, by go_num, rfl⟩
              · rw [hb] at s1
                go_wp2
                go_roundg (P.length + 1 - i - 1)
                case measure => omega
                case rel => exact ⟨i + 1, by omega, by omega, by go_num, rfl⟩
            · have hlt3 : ¬ (i : Int) < (P.length : Int) := by omega
              go_wp2_with fail
              (refine wp_region_quiet_more (by kernel_rfl) (by kernel_rfl) ?_; (repeat (first | go_big_quiet_skip | quiet_step ((first | fail)))); refine wpQuiet_nil ?_; intro _ hw'; obtain ⟨⟨nq, esq⟩, hw''⟩ := hw'; subst hw''; dsimp only)
              go_wp2
              go_ret3
              exact ⟨rp, rc, rfl, by have hbel := HBW.out; (repeat (first | exact Below.refl _ _ | assumption | refine nw_more ?_ _ _ | refine nw_alloc ?_ _ | refine nw_drew ?_ | refine nw_drewN ?_ _ | refine nw_set ?_ (by first | (simp; done) | (simp; omega) | omega) _))⟩
end Go.Proofs.YtaophiknldkfdaaGreatDoor
