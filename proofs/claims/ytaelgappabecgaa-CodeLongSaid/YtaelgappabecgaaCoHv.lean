/- The weight of the argument: what it says of the lists' lengths; records, lists of texts in memory. No condition. -/
import Derived.Test.YtaelgappabecgaaCoC2
import Derived.Test.YtaelgappabecgaaCoPl2
namespace Go.Proofs.Ytaelgappabecgaa
open Go.RowKit

/-- A record, with the slice value of its writes. -/
structure Rv where
  c : Int
  v : Value
  l : List Wr
instance : Inhabited Rv := ⟨⟨0, .slice none 0 0, []⟩⟩
def Rv.pl (x : Rv) : Int × List Wr := (x.c, x.l)
/-- The slice v holds the records P, two cells each, in a block below the world's end. -/
def RcAt (w : World) (v : Value) (P : List Rv) : Prop :=
  P.length ≤ 140737488355328 ∧ (∃ p cap, v = .slice p P.length cap ∧ ∀ i, i < P.length → ∃ b off, p = some ⟨b, off, none⟩ ∧ b < w.heap.size ∧ w.cell? ⟨b, off + i * 2, none⟩ = some (.int .i64 (P.getD i default).c) ∧ w.cell? ⟨b, off + i * 2 + 1, none⟩ = some (P.getD i default).v) ∧
  ∀ x ∈ P, WsAt w x.v x.l
theorem RcAt.below {w w' : World} {v : Value} {P : List Rv} (h : RcAt w v P) (hb : Below w.heap.size w w') : RcAt w' v P := by
  obtain ⟨h0, ⟨p, cap, h1, h4⟩, h5⟩ := h
  refine ⟨h0, ⟨p, cap, h1, fun i hi => ?_⟩, fun x hx => (h5 x hx).below hb⟩
  obtain ⟨b, off, e, h2, h6, h7⟩ := h4 i hi
  exact ⟨b, off, e, Nat.lt_of_lt_of_le h2 hb.size, by rw [hb.cell (p := ⟨b, off + i * 2, none⟩) h2]; exact h6, by rw [hb.cell (p := ⟨b, off + i * 2 + 1, none⟩) h2]; exact h7⟩
theorem drop_rv (l : List Rv) (k : Nat) (h : k < l.length) : l.drop k = l.getD k default :: l.drop (k + 1) := by
  rw [List.drop_eq_getElem_cons h]; simp [List.getD, h]
theorem RcAt.at {w : World} {v : Value} {P : List Rv} (h : RcAt w v P) : ∃ p cap, v = .slice p P.length cap ∧ P.length ≤ 140737488355328 ∧ ∀ k, k < P.length → ∃ b off x, p = some ⟨b, off, none⟩ ∧ Lt b w.heap.size ∧ w.cell? ⟨b, off + k * 2, none⟩ = some (.int .i64 x.c) ∧ w.cell? ⟨b, off + k * 2 + 1, none⟩ = some x.v ∧ WsAt w x.v x.l ∧ P.drop k = x :: P.drop (k + 1) ∧ P[k]? = some x := by
  obtain ⟨h0, ⟨p, cap, h1, h4⟩, h5⟩ := h
  refine ⟨p, cap, h1, h0, fun k hk => ?_⟩
  obtain ⟨b, off, e, h2, h6, h7⟩ := h4 k hk
  have hx : P[k]? = some (P.getD k default) := by simp [List.getD, hk]
  exact ⟨b, off, _, e, h2, h6, h7, h5 _ (List.mem_of_getElem? hx), drop_rv P k hk, hx⟩
/-- The slice v holds the lists of texts Q. -/
def LsAt (w : World) (v : Value) (Q : List (Value × List ByteArray)) : Prop :=
  Q.length ≤ 140737488355328 ∧ (∃ p cap, v = .slice p Q.length cap ∧ ∀ i, i < Q.length → ∃ b off, p = some ⟨b, off, none⟩ ∧ b < w.heap.size ∧ w.cell? ⟨b, off + i, none⟩ = some (Q.getD i (.slice none 0 0, [])).1) ∧ ∀ x ∈ Q, SsAt w x.1 x.2
theorem LsAt.below {w w' : World} {v : Value} {Q : List (Value × List ByteArray)} (h : LsAt w v Q) (hb : Below w.heap.size w w') : LsAt w' v Q := by
  obtain ⟨h0, ⟨p, cap, h1, h4⟩, h5⟩ := h
  refine ⟨h0, ⟨p, cap, h1, fun i hi => ?_⟩, fun x hx => (h5 x hx).below hb⟩
  obtain ⟨b, off, e, h2, h6⟩ := h4 i hi
  exact ⟨b, off, e, Nat.lt_of_lt_of_le h2 hb.size, by rw [hb.cell (p := ⟨b, off + i, none⟩) h2]; exact h6⟩
theorem LsAt.at {w : World} {v : Value} {Q : List (Value × List ByteArray)} (h : LsAt w v Q) : ∃ p cap, v = .slice p Q.length cap ∧ Q.length ≤ 140737488355328 ∧ ∀ k, k < Q.length → ∃ b off x, p = some ⟨b, off, none⟩ ∧ Lt b w.heap.size ∧ w.cell? ⟨b, off + k, none⟩ = some x.1 ∧ SsAt w x.1 x.2 ∧ Q[k]? = some x := by
  obtain ⟨h0, ⟨p, cap, h1, h4⟩, h5⟩ := h
  refine ⟨p, cap, h1, h0, fun k hk => ?_⟩
  obtain ⟨b, off, e, h2, h6⟩ := h4 k hk
  have hx : Q[k]? = some (Q.getD k (.slice none 0 0, [])) := by simp [List.getD, hk]
  exact ⟨b, off, _, e, h2, h6, h5 _ (List.mem_of_getElem? hx), hx⟩

/-- The weight, from m on. -/
def wwGo : Int → List Wr → Int
  | m, [] => m
  | m, x :: r => if m < 1048576 then wwGo (m + ((x.k.size : Int) + (x.s.size : Int)) / 8) r else m
def wwB (l : List Wr) : Int := wwGo l.length l
theorem wwGo_low : ∀ (l : List Wr) (m : Int), m ≤ wwGo m l
  | [], m => Int.le_refl m
  | x :: r, m => by
    unfold wwGo
    split
    · exact Int.le_trans (by omega) (wwGo_low r _)
    · exact Int.le_refl m
theorem wwGo_high : ∀ (l : List Wr) (m : Int), (∀ x ∈ l, x.k.size ≤ 140737488355328 ∧ x.s.size ≤ 140737488355328) → m ≤ 140737488355328 → wwGo m l ≤ 140737488355328
  | [], m, _, h => h
  | x :: r, m, hz, h => by
    unfold wwGo
    split
    · have := hz x List.mem_cons_self
      exact wwGo_high r _ (fun y hy => hz y (List.mem_cons_of_mem _ hy)) (by omega)
    · exact h

theorem Calls.more_same_intB {P : Program} {f : FuncId} {args : Array Value} {w : World} {n : Nat} {es : Array Obj} {b : Int} (c : Int) (hc : b = c)
    (h : Calls P f args (more w n es) fun e w' => e = .returned (.int .i64 b) ∧ Below (more w n es).heap.size (more w n es) w') : Calls P f args (more w n es) fun e w'' => e = .returned (.int .i64 c) ∧ ∃ p : MoreBy, w'' = more w p.n p.es := by
  subst hc; exact Calls.more_of h
set_option maxHeartbeats 2000000 in
theorem writesWeight_any (w : World) (v : Value) (l : List Wr) (h : WsAt w v l) :
    Calls Try.prog 25 #[v] w fun e w' => e = .returned (.int .i64 (wwB l)) ∧ Below w.heap.size w w' := by
  obtain ⟨p, cap, rfl, hl, hcap, ht⟩ := h.at
  have H := Lib.hid ht
  generalize hR : wwB l = R
  have HR0 : Hid (wwGo l.length l = R) := Lib.hid hR
  clear h ht hR
  go_enter Try.func25, Try.ntmps25
  go_wp2
  go_loopg [3, 4] (l.length + 1) (fun g s3 s4 wr => (∃ n es, wr = more w n es) ∧ ∃ (m : Int) (k : Nat), k ≤ l.length ∧ g + k = l.length + 1 ∧ 0 ≤ m ∧ s3 = .int .i64 m ∧ s4 = .int .i64 k ∧ Hid (wwGo m (l.drop k) = R))
  case atStart => exact ⟨below_more (Below.refl _ _), l.length, 0, Nat.zero_le _, rfl, by omega, rfl, rfl, HR0⟩
  case round =>
    obtain ⟨⟨n, es, rfl⟩, m, k, hk, hg, hm0, rfl, rfl, HT⟩ := hrel
    obtain rfl : gk = l.length + 1 - k := by omega
    clear hg
    by_cases hlt : k < l.length
    · have hkl : (k : Int) < (l.length : Int) := by omega
      obtain ⟨b, off, x, rfl, hb, hc0, hc1, hc2, hc3, hd, hxk, hsk, hsz⟩ := H.out k hlt
      obtain ⟨t, kk, s, g⟩ := x
      dsimp only at hc0 hc1 hc2 hc3 hsk hsz
      by_cases hm : m < 1048576
      · have hdm : decide (m < 1048576) = true := decide_eq_true hm
        have HE : Hid (wwGo (m + ((kk.size : Int) + (s.size : Int)) / 8) (l.drop (k + 1)) = R) := Lib.hid (by have := HT.out; rw [hd, wwGo, if_pos hm] at this; exact this)
        have w1 : IntKind.i64.wrap ((kk.size : Int) + (s.size : Int)) = (kk.size : Int) + (s.size : Int) := IntWalk.i64_in _ (by omega)
        have w2 : IntKind.i64.wrap (((kk.size : Int) + (s.size : Int)) / 8) = ((kk.size : Int) + (s.size : Int)) / 8 := IntWalk.i64_in _ (by omega)
        have w3 : IntKind.i64.wrap (m + ((kk.size : Int) + (s.size : Int)) / 8) = m + ((kk.size : Int) + (s.size : Int)) / 8 := IntWalk.i64_in _ (by omega)
        have WT : Hid (IntKind.i64.wrap (m + IntKind.i64.wrap (((kk.size : Int) + (s.size : Int)).tdiv 8)) = m + ((kk.size : Int) + (s.size : Int)) / 8) := Lib.hid (by rw [Int.tdiv_eq_ediv_of_nonneg (by omega), w2, w3])
        clear hd HT hxk H w2 w3
        go_wp2_with fail
        (refine wp_region_quiet_more (by kernel_rfl) (by kernel_rfl) ?_; (repeat (first | go_big_quiet_skip | quiet_step ((first | fail)))); refine wpQuiet_nil ?_; intro _ hw'; obtain ⟨⟨nq, esq⟩, hw''⟩ := hw'; subst hw''; dsimp only)
        go_wp2_with fail
        rw [WT.out]
        go_roundg (l.length + 1 - k - 1)
        case measure => omega
        case rel => exact ⟨below_more (by (repeat (first | exact Below.refl _ _ | assumption | refine nw_more ?_ _ _ | refine nw_alloc ?_ _ | refine nw_drew ?_ | refine nw_drewN ?_ _ | refine nw_set ?_ (by first | (simp; done) | (simp; omega) | omega) _))), _, k + 1, by omega, by omega, by omega, rfl, by go_num, HE⟩
      · have HE : Hid (R = m) := Lib.hid (by have := HT.out; rw [hd, wwGo, if_neg hm] at this; exact this.symm)
        clear hd HT hxk H
        go_wp2
        go_ret
        exact ⟨by rw [HE.out]; rfl, by (repeat (first | exact Below.refl _ _ | assumption | refine nw_more ?_ _ _ | refine nw_alloc ?_ _ | refine nw_drew ?_ | refine nw_drewN ?_ _ | refine nw_set ?_ (by first | (simp; done) | (simp; omega) | omega) _))⟩
    · have e : k = l.length := by omega
      have hkl : ¬ (k : Int) < (l.length : Int) := by omega
      have HE : Hid (R = m) := Lib.hid (by have := HT.out; rw [e, List.drop_length] at this; exact this.symm)
      clear e HT H
      go_wp2
      go_ret
      exact ⟨by rw [HE.out]; rfl, by (repeat (first | exact Below.refl _ _ | assumption | refine nw_more ?_ _ _ | refine nw_alloc ?_ _ | refine nw_drew ?_ | refine nw_drewN ?_ _ | refine nw_set ?_ (by first | (simp; done) | (simp; omega) | omega) _))⟩


/-- The texts' weight. -/
def txGo : Int → List ByteArray → Int
  | m, [] => m
  | m, x :: r => if m < 1048576 then txGo (m + (x.size : Int)) r else m
def txB (l : List ByteArray) : Int := txGo l.length l
theorem txGo_low : ∀ (l : List ByteArray) (m : Int), m ≤ txGo m l
  | [], m => Int.le_refl m
  | x :: r, m => by
    unfold txGo
    split
    · exact Int.le_trans (by omega) (txGo_low r _)
    · exact Int.le_refl m
theorem txGo_high : ∀ (l : List ByteArray) (m : Int), (∀ x ∈ l, x.size ≤ 140737488355328) → m ≤ 281474976710656 → txGo m l ≤ 281474976710656
  | [], m, _, h => h
  | x :: r, m, hz, h => by
    unfold txGo
    split
    · have := hz x List.mem_cons_self
      exact txGo_high r _ (fun y hy => hz y (List.mem_cons_of_mem _ hy)) (by omega)
    · exact h
set_option maxHeartbeats 2000000 in
theorem texts_any (w : World) (v : Value) (l : List ByteArray) (h : SsAt w v l) :
    Calls Try.prog 17 #[v] w fun e w' => e = .returned (.int .i64 (txB l)) ∧ Below w.heap.size w w' := by
  obtain ⟨p, cap, rfl, hl, hcap, ht⟩ := h.at
  have H := Lib.hid ht
  generalize hR : txB l = R
  have HR0 : Hid (txGo l.length l = R) := Lib.hid hR
  clear h ht hR
  go_enter Try.func17, Try.ntmps17
  go_wp2
  go_loopg [3, 4] (l.length + 1) (fun g s3 s4 wr => (∃ n es, wr = more w n es) ∧ ∃ (m : Int) (k : Nat), k ≤ l.length ∧ g + k = l.length + 1 ∧ 0 ≤ m ∧ s3 = .int .i64 m ∧ s4 = .int .i64 k ∧ Hid (txGo m (l.drop k) = R))
  case atStart => exact ⟨below_more (Below.refl _ _), l.length, 0, Nat.zero_le _, rfl, by omega, rfl, rfl, HR0⟩
  case round =>
    obtain ⟨⟨n, es, rfl⟩, m, k, hk, hg, hm0, rfl, rfl, HT⟩ := hrel
    obtain rfl : gk = l.length + 1 - k := by omega
    clear hg
    by_cases hlt : k < l.length
    · have hkl : (k : Int) < (l.length : Int) := by omega
      obtain ⟨b, off, s, rfl, hb, hc0, hd, hxk, hsz⟩ := H.out k hlt
      by_cases hm : m < 1048576
      · have hdm : decide (m < 1048576) = true := decide_eq_true hm
        have HE : Hid (txGo (m + (s.size : Int)) (l.drop (k + 1)) = R) := Lib.hid (by have := HT.out; rw [hd, txGo, if_pos hm] at this; exact this)
        have w3 : IntKind.i64.wrap (m + (s.size : Int)) = m + (s.size : Int) := IntWalk.i64_in _ (by omega)
        clear hd HT hxk H
        go_wp2_with fail
        go_roundg (l.length + 1 - k - 1)
        case measure => omega
        case rel => exact ⟨below_more (by (repeat (first | exact Below.refl _ _ | assumption | refine nw_more ?_ _ _ | refine nw_alloc ?_ _ | refine nw_drew ?_ | refine nw_drewN ?_ _ | refine nw_set ?_ (by first | (simp; done) | (simp; omega) | omega) _))), _, k + 1, by omega, by omega, by omega, by go_num, by go_num, HE⟩
      · have HE : Hid (R = m) := Lib.hid (by have := HT.out; rw [hd, txGo, if_neg hm] at this; exact this.symm)
        clear hd HT hxk H
        go_wp2
        go_ret
        exact ⟨by rw [HE.out]; rfl, by (repeat (first | exact Below.refl _ _ | assumption | refine nw_more ?_ _ _ | refine nw_alloc ?_ _ | refine nw_drew ?_ | refine nw_drewN ?_ _ | refine nw_set ?_ (by first | (simp; done) | (simp; omega) | omega) _))⟩
    · have e : k = l.length := by omega
      have hkl : ¬ (k : Int) < (l.length : Int) := by omega
      have HE : Hid (R = m) := Lib.hid (by have := HT.out; rw [e, List.drop_length] at this; exact this.symm)
      clear e HT H
      go_wp2
      go_ret
      exact ⟨by rw [HE.out]; rfl, by (repeat (first | exact Below.refl _ _ | assumption | refine nw_more ?_ _ _ | refine nw_alloc ?_ _ | refine nw_drew ?_ | refine nw_drewN ?_ _ | refine nw_set ?_ (by first | (simp; done) | (simp; omega) | omega) _))⟩

/-- The records' weight. -/
def rwGo : Int → List Rv → Int
  | m, [] => m
  | m, x :: r => if m < 1048576 then rwGo (m + wwB x.l) r else m
def rwB (P : List Rv) : Int := rwGo P.length P
theorem wwB_low (l : List Wr) : 0 ≤ wwB l := Int.le_trans (Int.natCast_nonneg _) (wwGo_low l _)
theorem wwB_high (l : List Wr) (h0 : l.length ≤ 140737488355328) (h : ∀ x ∈ l, x.k.size ≤ 140737488355328 ∧ x.s.size ≤ 140737488355328) : wwB l ≤ 140737488355328 := wwGo_high l _ h (by omega)
theorem rwGo_low : ∀ (l : List Rv) (m : Int), m ≤ rwGo m l
  | [], m => Int.le_refl m
  | x :: r, m => by
    unfold rwGo
    split
    · exact Int.le_trans (by have := wwB_low x.l; omega) (rwGo_low r _)
    · exact Int.le_refl m
theorem rwGo_high : ∀ (l : List Rv) (m : Int), (∀ x ∈ l, wwB x.l ≤ 140737488355328) → m ≤ 281474976710656 → rwGo m l ≤ 281474976710656
  | [], m, _, h => h
  | x :: r, m, hz, h => by
    unfold rwGo
    split
    · have := hz x List.mem_cons_self
      exact rwGo_high r _ (fun y hy => hz y (List.mem_cons_of_mem _ hy)) (by omega)
    · exact h
set_option maxHeartbeats 2000000 in
theorem recordsWeight_any (w : World) (v : Value) (l : List Rv) (h : RcAt w v l) :
    Calls Try.prog 16 #[v] w fun e w' => e = .returned (.int .i64 (rwB l)) ∧ Below w.heap.size w w' := by
  obtain ⟨p, cap, rfl, hl, ht⟩ := h.at
  have H := Lib.hid ht
  generalize hR : rwB l = R
  have HR0 : Hid (rwGo l.length l = R) := Lib.hid hR
  clear h ht hR
  go_enter Try.func16, Try.ntmps16
  go_wp2
  go_loopg [3, 4] (l.length + 1) (fun g s3 s4 wr => (∃ n es, wr = more w n es) ∧ ∃ (m : Int) (k : Nat), k ≤ l.length ∧ g + k = l.length + 1 ∧ 0 ≤ m ∧ s3 = .int .i64 m ∧ s4 = .int .i64 k ∧ Hid (rwGo m (l.drop k) = R))
  case atStart => exact ⟨below_more (Below.refl _ _), l.length, 0, Nat.zero_le _, rfl, by omega, rfl, rfl, HR0⟩
  case round =>
    obtain ⟨⟨n, es, rfl⟩, m, k, hk, hg, hm0, rfl, rfl, HT⟩ := hrel
    obtain rfl : gk = l.length + 1 - k := by omega
    clear hg
    by_cases hlt : k < l.length
    · have hkl : (k : Int) < (l.length : Int) := by omega
      obtain ⟨b, off, x, rfl, hb, hc0, hc1, hws, hd, hxk⟩ := H.out k hlt
      obtain ⟨xc, xv, xl⟩ := x
      dsimp only at hc0 hc1 hws
      obtain ⟨xp, xcap, rfl, -⟩ := hws.slice
      by_cases hm : m < 1048576
      · have hdm : decide (m < 1048576) = true := decide_eq_true hm
        have HE : Hid (rwGo (m + wwB xl) (l.drop (k + 1)) = R) := Lib.hid (by have := HT.out; rw [hd, rwGo, if_pos hm] at this; exact this)
        have h1 := wwB_low xl
        have h2 := wwB_high xl hws.1 hws.2.1
        have HW := Lib.hid hws
        have HC := Lib.hid (fun X (h : WsAt X (.slice xp xl.length xcap) xl) => writesWeight_any X _ xl h)
        generalize wwB xl = y at *
        have w3 : IntKind.i64.wrap (m + y) = m + y := IntWalk.i64_in _ (by omega)
        clear hd HT hxk H hws
        go_wp2_with (first | (go_at_call 25; refine (HC.out _ (HW.out.below (by (repeat (first | exact Below.refl _ _ | assumption | refine nw_more ?_ _ _ | refine nw_alloc ?_ _ | refine nw_drew ?_ | refine nw_drewN ?_ _ | refine nw_set ?_ (by first | (simp; done) | (simp; omega) | omega) _))))).mono ?_; (rintro e w' ⟨rfl, hb⟩; obtain ⟨n, es, rfl⟩ := below_more hb; clear hb)))
        go_roundg (l.length + 1 - k - 1)
        case measure => omega
        case rel => exact ⟨below_more (by (repeat (first | exact Below.refl _ _ | assumption | refine nw_more ?_ _ _ | refine nw_alloc ?_ _ | refine nw_drew ?_ | refine nw_drewN ?_ _ | refine nw_set ?_ (by first | (simp; done) | (simp; omega) | omega) _))), _, k + 1, by omega, by omega, by omega, by go_num, by go_num, HE⟩
      · have HE : Hid (R = m) := Lib.hid (by have := HT.out; rw [hd, rwGo, if_neg hm] at this; exact this.symm)
        clear hd HT hxk H hws
        go_wp2
        go_ret
        exact ⟨by rw [HE.out]; rfl, by (repeat (first | exact Below.refl _ _ | assumption | refine nw_more ?_ _ _ | refine nw_alloc ?_ _ | refine nw_drew ?_ | refine nw_drewN ?_ _ | refine nw_set ?_ (by first | (simp; done) | (simp; omega) | omega) _))⟩
    · have e : k = l.length := by omega
      have hkl : ¬ (k : Int) < (l.length : Int) := by omega
      have HE : Hid (R = m) := Lib.hid (by have := HT.out; rw [e, List.drop_length] at this; exact this.symm)
      clear e HT H
      go_wp2
      go_ret
      exact ⟨by rw [HE.out]; rfl, by (repeat (first | exact Below.refl _ _ | assumption | refine nw_more ?_ _ _ | refine nw_alloc ?_ _ | refine nw_drew ?_ | refine nw_drewN ?_ _ | refine nw_set ?_ (by first | (simp; done) | (simp; omega) | omega) _))⟩
end Go.Proofs.Ytaelgappabecgaa
