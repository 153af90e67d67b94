/- Contract of package tree: which trees may be. -/
import Derived.Test.YtaophiknldkfdaaGreatDoorTreeF
import Derived.Test.YtaophiknldkfdaaGreatDoorTreeA
namespace Go.Proofs.YtaophiknldkfdaaGreatDoor
open Go.RowKit

set_option maxHeartbeats 1000000 in
theorem mayBe_any {α : Type} (K : Ks α) (B : Nat) (w : World) (v u : Value) (r : Int) (P : List (Nv α)) (F : List Int) (h : TreeIn K B w v u P F) :
    Calls Tryz.prog 21 #[.agg #[v, .int .i64 r, u]] w fun e w' => e = .returned (.bool (mayT K (Tr.mk (ndsOf P) r F))) ∧ Below w.heap.size w w' := by
  have HT := Lib.hid h
  obtain ⟨np, nc, rfl, -⟩ := h.1.slice
  obtain ⟨fp, fc, rfl, -⟩ := h.2.slice
  have hF := h.2.1
  have HF := Lib.hid (fun w' (hb : Below w.heap.size w w') => freeMayBe_any K B w' _ _ r P F (HT.out.1.below hb) (HT.out.2.below hb))
  have HM : Hid (mayT K (Tr.mk (ndsOf P) r F) = (decide (P.length ≤ 200) && (freeFrom (Tr.mk (ndsOf P) r F) 0 F && levelsB K (Tr.mk (ndsOf P) r F) (P.length + 1) (List.replicate P.length false) 0 [(r, (none, none))]))) := Lib.hid (by
    unfold mayT; rw [nds_len])
  have HX : Hid (P.length ≤ 200 → ∀ w' : World, Below w.heap.size w w' → _) := Lib.hid (fun h200 w' (hb : Below w.heap.size w w') => nodesMayBe_any K B w' _ r P F fp fc (HT.out.1.below hb) h200 hF)
  clear h
  generalize mayT K (Tr.mk (ndsOf P) r F) = m at *
  generalize freeFrom (Tr.mk (ndsOf P) r F) 0 F = fr at *
  generalize levelsB K (Tr.mk (ndsOf P) r F) (P.length + 1) (List.replicate P.length false) 0 [(r, (none, none))] = lv at *
  by_cases h200 : P.length ≤ 200
  · have hd : decide ((P.length : Int) ≤ 200) = true := by simp; omega
    have HX2 := Lib.hid (HX.out h200)
    cases fr
    · have HE : Hid (m = false) := Lib.hid (by rw [HM.out]; simp)
      go_enter Tryz.func21, Tryz.ntmps21
      go_wp2_with fail
      (refine wp_region_quiet_more (by kernel_rfl) (by kernel_rfl) ?_; (repeat (first | go_big_quiet_skip | quiet_step ((first | (go_at_call 29; exact Calls.more_same (mostNodes_any _)) | (go_at_call 38; exact Calls.more_of (HF.out _ (by (repeat (first | exact Below.refl _ _ | assumption | refine nw_more ?_ _ _ | refine nw_alloc ?_ _ | refine nw_drew ?_ | refine nw_drewN ?_ _ | refine nw_set ?_ (by first | (simp; done) | (simp; omega) | omega) _))))))))); refine wpQuiet_nil ?_; intro _ hw'; obtain ⟨⟨nq, esq⟩, hw''⟩ := hw'; subst hw''; dsimp only)
      go_wp2
      go_ret
      exact ⟨ret_bool (by rw [HE.out]), by (repeat (first | exact Below.refl _ _ | assumption | refine nw_more ?_ _ _ | refine nw_alloc ?_ _ | refine nw_drew ?_ | refine nw_drewN ?_ _ | refine nw_set ?_ (by first | (simp; done) | (simp; omega) | omega) _))⟩
    · have HE : Hid (m = lv) := Lib.hid (by rw [HM.out, decide_eq_true h200]; rfl)
      go_enter Tryz.func21, Tryz.ntmps21
      go_wp2_with fail
      (refine wp_region_quiet_more (by kernel_rfl) (by kernel_rfl) ?_; (repeat (first | go_big_quiet_skip | quiet_step ((first | (go_at_call 29; exact Calls.more_same (mostNodes_any _)) | (go_at_call 38; exact Calls.more_of (HF.out _ (by (repeat (first | exact Below.refl _ _ | assumption | refine nw_more ?_ _ _ | refine nw_alloc ?_ _ | refine nw_drew ?_ | refine nw_drewN ?_ _ | refine nw_set ?_ (by first | (simp; done) | (simp; omega) | omega) _))))) | (go_at_call 39; exact Calls.more_of (HX2.out _ (by (repeat (first | exact Below.refl _ _ | assumption | refine nw_more ?_ _ _ | refine nw_alloc ?_ _ | refine nw_drew ?_ | refine nw_drewN ?_ _ | refine nw_set ?_ (by first | (simp; done) | (simp; omega) | omega) _))))))))); refine wpQuiet_nil ?_; intro _ hw'; obtain ⟨⟨nq, esq⟩, hw''⟩ := hw'; subst hw''; dsimp only)
      go_wp2
      go_ret
      exact ⟨ret_bool (by rw [HE.out]), by (repeat (first | exact Below.refl _ _ | assumption | refine nw_more ?_ _ _ | refine nw_alloc ?_ _ | refine nw_drew ?_ | refine nw_drewN ?_ _ | refine nw_set ?_ (by first | (simp; done) | (simp; omega) | omega) _))⟩
  · have HE : Hid (m = false) := Lib.hid (by rw [HM.out, decide_eq_false h200]; rfl)
    have hd : decide ((P.length : Int) ≤ 200) = false := by simp; omega
    go_enter Tryz.func21, Tryz.ntmps21
    go_wp2_with fail
    (refine wp_region_quiet_more (by kernel_rfl) (by kernel_rfl) ?_; (repeat (first | go_big_quiet_skip | quiet_step ((first | (go_at_call 29; exact Calls.more_same (mostNodes_any _)))))); refine wpQuiet_nil ?_; intro _ hw'; obtain ⟨⟨nq, esq⟩, hw''⟩ := hw'; subst hw''; dsimp only)
    go_wp2
    go_ret
    exact ⟨ret_bool (by rw [HE.out]), by (repeat (first | exact Below.refl _ _ | assumption | refine nw_more ?_ _ _ | refine nw_alloc ?_ _ | refine nw_drew ?_ | refine nw_drewN ?_ _ | refine nw_set ?_ (by first | (simp; done) | (simp; omega) | omega) _))⟩
end Go.Proofs.YtaophiknldkfdaaGreatDoor
/- Contracts: a key's place among keys that rise. -/
namespace Go.Proofs.YtaophiknldkfdaaGreatDoor
open Go.RowKit

/-- How many keys stand ahead of k; whether k is there. -/
def posB {α : Type} (K : Ks α) (k : α) : List α → Nat
  | [] => 0
  | x :: r => if K.lt x k then posB K k r + 1 else 0
def isB {α : Type} (K : Ks α) (k : α) (l : List α) : Bool := match l[posB K k l]? with
  | some x => !K.lt k x
  | none => false
section
variable {α : Type} {K : Ks α}
theorem lt_trans' {a b c : α} (h : K.lt a b = true) (h2 : K.lt b c = true) : K.lt a c = true := by
  rw [← K.hlt] at *; exact less_trans h h2
theorem lt_asymm' {a b : α} (h : K.lt a b = true) : K.lt b a = false := by
  rw [← K.hlt] at *; exact less_asymm h
theorem same_of {a b : α} (h : K.lt a b = false) : ((K.s a).toList == (K.s b).toList) = !K.lt b a := by
  rw [← K.hlt] at *
  rcases less_tri (K.s a) (K.s b) with h1 | h1 | h1
  · rw [h1] at h; cases h
  · rw [h1, less_irrefl]; simp
  · rw [h1]
    have : sameB (K.s a) (K.s b) = false := by
      have : ¬ sameB (K.s a) (K.s b) = true := fun k => by rw [same_iff] at k; rw [k, less_irrefl] at h1; cases h1
      simpa using this
    exact this
theorem pos_le (k : α) (l : List α) : posB K k l ≤ l.length := by
  induction l with
  | nil => exact Nat.le_refl _
  | cons x r ih => rw [posB]; split <;> simp; omega
theorem rise_all {a : α} {l : List α} (h : riseFrom K a l = true) : ∀ x ∈ l, K.lt a x = true := by
  induction l generalizing a with
  | nil => intro x hx; cases hx
  | cons b r ih =>
    simp only [riseFrom, Bool.and_eq_true] at h
    intro x hx
    rcases List.mem_cons.1 hx with rfl | hx
    · exact h.1
    · exact lt_trans' h.1 (ih h.2 x hx)
theorem rise_tail {a : α} {l : List α} (h : riseFrom K a l = true) : riseB K l = true := by
  cases l with
  | nil => rfl
  | cons b r => simp only [riseFrom, Bool.and_eq_true] at h; exact h.2
theorem pos_lt {k : α} {l : List α} (h : riseB K l = true) {i : Nat} {x : α} (hx : l[i]? = some x) : K.lt x k = decide (i < posB K k l) := by
  induction l generalizing i with
  | nil => simp at hx
  | cons a r ih =>
    rw [posB]
    cases ha : K.lt a k with
    | false =>
      simp only [Bool.false_eq_true, if_false]
      cases i with
      | zero => simp at hx; subst hx; rw [ha]; rfl
      | succ i =>
        have hxm : x ∈ r := List.mem_of_getElem? (by simpa using hx)
        have hax := rise_all h x hxm
        have : K.lt x k = false := by
          cases hxk : K.lt x k with
          | false => rfl
          | true => rw [lt_trans' hax hxk] at ha; cases ha
        rw [this]; simp
    | true =>
      simp only [if_true]
      cases i with
      | zero => simp at hx; subst hx; rw [ha]; simp
      | succ i =>
        rw [ih (rise_tail h) (by simpa using hx)]
        simp
end

theorem isNaN_any (s : ByteArray) (w : World) :
    Calls Tryz.prog 65 #[.string s] w fun e w' => e = .returned (.bool false) ∧ w = w' := by
  go_enter Tryz.func65, Tryz.ntmps65
  go_wp2
  go_ret
  exact ⟨ret_bool (by simp), rfl⟩
theorem isNaN2_any (s : ByteArray) (w : World) :
    Calls Tryz.prog 43 #[.string s] w fun e w' => e = .returned (.bool false) ∧ w = w' := by
  go_enter Tryz.func43, Tryz.ntmps43
  go_wp2
  go_ret
  exact ⟨ret_bool (by simp), rfl⟩
theorem less_any (a b : ByteArray) (w : World) :
    Calls Tryz.prog 42 #[.string a, .string b] w fun e w' => e = .returned (.bool (lessB a b)) ∧ w = w' := by
  go_enter Tryz.func42, Tryz.ntmps42
  go_wp2_with (first | (go_at_call 65; refine (isNaN_any _ _).mono ?_; rintro e w' ⟨rfl, rfl⟩))
  go_ret
  exact ⟨rfl, rfl⟩

set_option maxHeartbeats 1000000 in
theorem search_any {α : Type} (K : Ks α) (B : Nat) (w : World) (v : Value) (l : List α) (k : α) (h : KeysIn K B w v l) (hs : riseB K l = true) :
    Calls Tryz.prog 25 #[v, .string (K.s k)] w fun e w' => e = .returned (.tuple #[.int .i64 (posB K k l), .bool (isB K k l)]) ∧ w = w' := by
  obtain ⟨p, cap, rfl, hl, ht⟩ := h.at
  have H := Lib.hid ht
  have hple := pos_le (K := K) k l
  have hlts : ∀ (i : Nat) (x : α), l[i]? = some x → K.lt x k = decide (i < posB K k l) := fun i x hx => pos_lt hs hx
  have hib : isB K k l = (match l[posB K k l]? with
    | some x => !K.lt k x
    | none => false) := rfl
  generalize isB K k l = ib at *
  generalize posB K k l = pp at *
  have HLT := Lib.hid hlts
  have HIB := Lib.hid hib
  clear h ht hs hlts hib
  go_enter Tryz.func25, Tryz.ntmps25
  go_wp2
  go_loop [7, 8] (fun a b => ∃ i j : Nat, i ≤ pp ∧ pp ≤ j ∧ j ≤ l.length ∧ a = .int .i64 i ∧ b = .int .i64 j) (fun a b => (intOf b - intOf a).toNat)
  case atStart => exact ⟨0, l.length, Nat.zero_le _, hple, Nat.le_refl _, rfl, rfl⟩
  case round =>
    obtain ⟨i, j, hi, hj, hjl, rfl, rfl⟩ := hrel
    by_cases hij : i < j
    · have hhl : (i + j) / 2 < l.length := by omega
      obtain ⟨b, off, x, rfl, hb, hc, -, hx⟩ := H.out ((i + j) / 2) hhl
      have hlt := HLT.out _ _ hx
      have hls := K.hlt x k
      rw [hlt] at hls
      clear hx hlt
      by_cases hm : (i + j) / 2 < pp
      · rw [decide_eq_true hm] at hls
        have HLS := Lib.hid hls
        clear hls
        go_wp2_with (first | (go_at_call 42; refine (less_any _ _ _).mono ?_; rw [HLS.out]; rintro e w' ⟨rfl, rfl⟩))
        go_round
        case rel => exact ⟨(i + j) / 2 + 1, j, by omega, hj, hjl, by go_num, rfl⟩
        case measure => simp [intOf]; omega
      · rw [decide_eq_false hm] at hls
        have HLS := Lib.hid hls
        clear hls
        go_wp2_with (first | (go_at_call 42; refine (less_any _ _ _).mono ?_; rw [HLS.out]; rintro e w' ⟨rfl, rfl⟩))
        go_round
        case rel => exact ⟨i, (i + j) / 2, hi, by omega, by omega, rfl, by go_num⟩
        case measure => simp [intOf]; omega
    · obtain rfl : i = pp := by omega
      obtain rfl : i = j := by omega
      by_cases hpl : i < l.length
      · obtain ⟨b, off, x, rfl, hb, hc, -, hx⟩ := H.out i hpl
        have hlt := HLT.out _ _ hx
        rw [decide_eq_false (Nat.lt_irrefl i)] at hlt
        have hsm := same_of hlt
        have HI2 : Hid (ib = !K.lt k x) := Lib.hid (by rw [HIB.out, hx])
        have i1 : (i : Int) < (l.length : Int) := by omega
        clear hx hlt
        cases hkx : K.lt k x
        · rw [hkx, Bool.not_false] at hsm
          have HE : Hid (ib = true) := Lib.hid (by rw [HI2.out, hkx]; rfl)
          clear hkx HI2
          go_wp2_with (first | (go_at_call 43; refine (isNaN2_any _ _).mono ?_; rintro e w' ⟨rfl, rfl⟩))
          go_ret2
          exact ⟨by rw [HE.out]; rfl, rfl⟩
        · rw [hkx, Bool.not_true] at hsm
          have HE : Hid (ib = false) := Lib.hid (by rw [HI2.out, hkx]; rfl)
          clear hkx HI2
          go_wp2_with (first | (go_at_call 43; refine (isNaN2_any _ _).mono ?_; rintro e w' ⟨rfl, rfl⟩))
          go_ret2
          exact ⟨by rw [HE.out]; rfl, rfl⟩
      · have HE : Hid (ib = false) := Lib.hid (by rw [HIB.out, List.getElem?_eq_none (by omega)])
        go_wp2
        go_ret2
        exact ⟨by rw [HE.out]; rfl, rfl⟩
end Go.Proofs.YtaophiknldkfdaaGreatDoor
/- Contracts of package tree: the way to a leaf. -/
namespace Go.Proofs.YtaophiknldkfdaaGreatDoor
open Go.RowKit

def kidN {α : Type} (K : Ks α) (k : α) (n : Nd α) : Nat := if isB K k n.keys then posB K k n.keys + 1 else posB K k n.keys
/-- The way from node n to the leaf for k; none: it is not told. -/
def wayO {α : Type} (K : Ks α) (t : Tr α) (k : α) : Nat → Nat → Option (List (Nat × Nat) × Nat)
  | 0, _ => none
  | f + 1, n => match t.nodes[n]? with
    | none => none
    | some x => if x.leaf then some ([], n) else if !riseB K x.keys then none else match x.kids[kidN K k x]? with
      | none => none
      | some c => if c < 0 then none else match wayO K t k f c.toNat with
        | none => none
        | some (p, l) => some ((n, kidN K k x) :: p, l)
theorem way_leaf {α : Type} {K : Ks α} {t : Tr α} {k : α} {f n : Nat} {x : Nd α} (h : t.nodes[n]? = some x) (hl : x.leaf = true) : wayO K t k (f + 1) n = some ([], n) := by
  rw [wayO, h]; simp [hl]
theorem way_inner {α : Type} {K : Ks α} {t : Tr α} {k : α} {f n : Nat} {x : Nd α} {p : List (Nat × Nat)} {l : Nat} (h : t.nodes[n]? = some x) (hl : x.leaf = false) (hw : wayO K t k (f + 1) n = some (p, l)) :
    riseB K x.keys = true ∧ ∃ (c : Nat) (p' : List (Nat × Nat)), x.kids[kidN K k x]? = some (c : Int) ∧ wayO K t k f c = some (p', l) ∧ p = (n, kidN K k x) :: p' := by
  rw [wayO, h] at hw
  simp only [hl, Bool.false_eq_true, if_false] at hw
  split at hw
  · cases hw
  · rename_i hr
    refine ⟨by simpa using hr, ?_⟩
    split at hw
    · cases hw
    · rename_i c hc
      split at hw
      · cases hw
      · rename_i h0
        split at hw
        · cases hw
        · rename_i p' l' hp
          simp only [Option.some.injEq, Prod.mk.injEq] at hw
          obtain ⟨rfl, rfl⟩ := hw
          exact ⟨c.toNat, p', by rw [hc]; congr 1; omega, hp, rfl⟩
theorem way_some {α : Type} {K : Ks α} {t : Tr α} {k : α} {f n : Nat} {q : List (Nat × Nat) × Nat} (hw : wayO K t k f n = some q) : ∃ f' x, f = f' + 1 ∧ t.nodes[n]? = some x := by
  cases f with
  | zero => cases hw
  | succ f =>
    cases h : t.nodes[n]? with
    | none => rw [wayO, h] at hw; cases hw
    | some x => exact ⟨f, x, rfl, rfl⟩
theorem way_len {α : Type} {K : Ks α} {t : Tr α} {k : α} {f n : Nat} {p : List (Nat × Nat)} {l : Nat} (hw : wayO K t k f n = some (p, l)) : p.length ≤ f := by
  induction f generalizing n p with
  | zero => cases hw
  | succ f ih =>
    obtain ⟨-, x, -, hx⟩ := way_some hw
    cases hl : x.leaf with
    | true => rw [way_leaf hx hl] at hw; simp at hw; rw [hw.1]; simp
    | false =>
      obtain ⟨-, c, p', -, hp, rfl⟩ := way_inner hx hl hw
      have := ih hp
      simp; omega

set_option maxHeartbeats 400000 in
theorem kidFor_any {α : Type} (K : Ks α) (B : Nat) (w : World) (kv rv cv : Value) (n : Nd α) (k : α) (h : KeysIn K B w kv n.keys) (hs : riseB K n.keys = true) :
    Calls Tryz.prog 40 #[.agg #[kv, rv, cv, .bool n.leaf], .string (K.s k)] w fun e w' => e = .returned (.int .i64 (kidN K k n)) ∧ Below w.heap.size w w' := by
  have HK := Lib.hid h
  have HS := Lib.hid hs
  have hl := h.len
  obtain ⟨p, cap, rfl, -⟩ := h.slice
  have hple := pos_le (K := K) k n.keys
  have HN : Hid (kidN K k n = if isB K k n.keys then posB K k n.keys + 1 else posB K k n.keys) := rfl
  have hsearch := fun w' (hb : Below w.heap.size w w') => search_any K B w' _ n.keys k (HK.out.below hb) HS.out
  have HSE := Lib.hid hsearch
  clear h hs hsearch
  generalize kidN K k n = kn at *
  generalize isB K k n.keys = ib at *
  generalize posB K k n.keys = pp at *
  cases ib
  · have HE : Hid (kn = pp) := Lib.hid (by rw [HN.out]; rfl)
    go_enter Tryz.func40, Tryz.ntmps40
    go_wp2_with (first | (go_at_call 25; refine (HSE.out _ (by (repeat (first | exact Below.refl _ _ | assumption | refine nw_more ?_ _ _ | refine nw_alloc ?_ _ | refine nw_drew ?_ | refine nw_drewN ?_ _ | refine nw_set ?_ (by first | (simp; done) | (simp; omega) | omega) _)))).mono ?_; rintro e w' ⟨rfl, rfl⟩))
    go_ret
    exact ⟨ret_int (by rw [HE.out]), by (repeat (first | exact Below.refl _ _ | assumption | refine nw_more ?_ _ _ | refine nw_alloc ?_ _ | refine nw_drew ?_ | refine nw_drewN ?_ _ | refine nw_set ?_ (by first | (simp; done) | (simp; omega) | omega) _))⟩
  · have HE : Hid (kn = pp + 1) := Lib.hid (by rw [HN.out]; rfl)
    go_enter Tryz.func40, Tryz.ntmps40
    go_wp2_with (first | (go_at_call 25; refine (HSE.out _ (by (repeat (first | exact Below.refl _ _ | assumption | refine nw_more ?_ _ _ | refine nw_alloc ?_ _ | refine nw_drew ?_ | refine nw_drewN ?_ _ | refine nw_set ?_ (by first | (simp; done) | (simp; omega) | omega) _)))).mono ?_; rintro e w' ⟨rfl, rfl⟩))
    go_ret
    exact ⟨ret_int (by rw [HE.out]; go_num), by (repeat (first | exact Below.refl _ _ | assumption | refine nw_more ?_ _ _ | refine nw_alloc ?_ _ | refine nw_drew ?_ | refine nw_drewN ?_ _ | refine nw_set ?_ (by first | (simp; done) | (simp; omega) | omega) _))⟩

set_option maxHeartbeats 400000 in
theorem kidAt_any {α : Type} (K : Ks α) (B : Nat) (w : World) (v u : Value) (r : Int) (P : List (Nv α)) (q j : Nat) (x : Nv α) (c : Int) (h : NodesIn K B w v P) (hx : P[q]? = some x) (hc : x.n.kids[j]? = some c) :
    Calls Tryz.prog 41 #[.agg #[v, .int .i64 r, u], .agg #[.int .i64 q, .int .i64 j]] w fun e w' => e = .returned (.int .i64 c) ∧ Below w.heap.size w w' := by
  obtain ⟨b, off, cap, p1, c1, p2, c2, p3, c3, rfl, hk, hb, e1, e2, e3, hc0, hc1, hc2, hc3, hn⟩ := nodes_get h hx
  obtain ⟨p, cc, e4, hcl, hat⟩ := hn.2.2.at
  rw [e3] at e4
  obtain ⟨rfl, rfl⟩ : p3 = p ∧ c3 = cc := by simpa using e4
  have hj : j < x.n.kids.length := (List.getElem?_eq_some_iff.1 hc).1
  obtain ⟨b2, off2, c', rfl, hb2, hcc, -, hcj⟩ := hat j hj
  rw [hc] at hcj
  obtain rfl := Option.some.inj hcj
  generalize x.n.kids.length = m at *
  have k1 : (q : Int) < (P.length : Int) := by omega
  have k0 : (0 : Int) ≤ (q : Int) := by omega
  have j1 : (j : Int) < (m : Int) := by omega
  have j0 : (0 : Int) ≤ (j : Int) := by omega
  clear h hx hc hn hat e1 e2 e3 e4 hcj hc0 hc1 hc3
  go_enter Tryz.func41, Tryz.ntmps41
  go_wp2_with fail
  (refine wp_region_quiet_more (by kernel_rfl) (by kernel_rfl) ?_; (repeat (first | go_big_quiet_skip | quiet_step ((first | fail)))); refine wpQuiet_nil ?_; intro _ hw'; obtain ⟨⟨nq, esq⟩, hw''⟩ := hw'; subst hw''; dsimp only)
  go_wp2
  go_ret
  exact ⟨rfl, by (repeat (first | exact Below.refl _ _ | assumption | refine nw_more ?_ _ _ | refine nw_alloc ?_ _ | refine nw_drew ?_ | refine nw_drewN ?_ _ | refine nw_set ?_ (by first | (simp; done) | (simp; omega) | omega) _))⟩

/- Places in memory: two cells each. -/
def placeCells : List (Nat × Nat) → List Value
  | [] => []
  | p :: r => .int .i64 p.1 :: .int .i64 p.2 :: placeCells r
theorem placeCells_append (l m : List (Nat × Nat)) : placeCells (l ++ m) = placeCells l ++ placeCells m := by
  induction l with
  | nil => rfl
  | cons x r ih => simp [placeCells, ih]
theorem placeCells_at (l : List (Nat × Nat)) (i : Nat) (p : Nat × Nat) (h : l[i]? = some p) : (placeCells l)[i * 2]? = some (.int .i64 p.1) ∧ (placeCells l)[i * 2 + 1]? = some (.int .i64 p.2) := by
  induction l generalizing i with
  | nil => simp at h
  | cons x r ih =>
    cases i with
    | zero => simp at h; subst h; simp [placeCells]
    | succ i =>
      have := ih i (by simpa using h)
      rw [show (i + 1) * 2 = i * 2 + 1 + 1 by omega]
      simpa [placeCells] using this
def OwnPl (B : Nat) (w : World) (v : Value) (l : List (Nat × Nat)) : Prop := w.ownsRow B 82 2 v l.length (placeCells l)
theorem OwnPl.nil (B : Nat) (w : World) : OwnPl B w (.slice none 0 0) [] := World.ownsRow_nil _ _ _ _
theorem OwnPl.snoc {B : Nat} {w : World} {v : Value} {l : List (Nat × Nat)} {x : Nat × Nat} (h : w.ownsRow B 82 2 v (l.length + 1) (placeCells l ++ [.int .i64 x.1, .int .i64 x.2])) : OwnPl B w v (l ++ [x]) := by
  unfold OwnPl
  rw [List.length_append, placeCells_append]; exact h
theorem OwnPl.not {B : Nat} {w : World} {v : Value} {l : List (Nat × Nat)} (h : OwnPl B w v l) {b : Nat} {T : TypeId} {cs : Array Value} (hb : Blc w b T cs) (hT : T ≠ 82) : v.ownBlock ≠ some b := by
  rcases h.2 with ⟨rfl, -⟩ | ⟨g, cap, cur, rfl, -, hg, -⟩
  · simp [Value.ownBlock]
  · intro e
    obtain rfl : g = b := by simpa [Value.ownBlock] using e
    unfold Blc at hb
    rw [hb] at hg
    simp at hg
    exact hT hg.2
theorem info_place : (Tryz.prog.info? 82).map (fun i => (i.zero, i.size, i.bytes)) = some (some (.agg #[.int .i64 0, .int .i64 0]), 2, 16) := by kernel_rfl

set_option maxRecDepth 100000 in
set_option maxHeartbeats 2000000 in
theorem way_any {α : Type} (K : Ks α) (B : Nat) (w : World) (v u : Value) (n0 : Nat) (P : List (Nv α)) (F : List Int) (k : α) (f0 leaf : Nat) (path : List (Nat × Nat)) (h : NodesIn K B w v P) (hf0 : f0 ≤ 1000) (hw : wayO K (Tr.mk (ndsOf P) n0 F) k f0 n0 = some (path, leaf)) :
    Calls Tryz.prog 24 #[.agg #[v, .int .i64 n0, u], .string (K.s k)] w fun e w' => ∃ pv, e = .returned (.tuple #[pv, .int .i64 leaf]) ∧ OwnPl w.heap.size w' pv path ∧ Below w.heap.size w w' := by
  have HN := Lib.hid h
  have hpl := way_len hw
  obtain ⟨np, nc, rfl, -⟩ := h.slice
  obtain ⟨i0, hi, hz0, hz1, hz2⟩ := info_parts info_place
  have HI := Lib.hid hi
  have HND : Hid ((Tr.mk (ndsOf P) (n0 : Int) F).nodes = ndsOf P) := rfl
  generalize Tr.mk (ndsOf P) (n0 : Int) F = t at *
  have HW := Lib.hid hw
  clear h hi hw
  go_enter Tryz.func24, Tryz.ntmps24
  go_wp2_with fail
  go_loopg [4, 6] (f0 + 1) (fun g s4 s6 wr => ∃ (f n : Nat) (d p2 : List (Nat × Nat)), g = f + 1 ∧ f ≤ f0 ∧ s6 = .int .i64 n ∧ d.length + f ≤ f0 ∧ Hid (wayO K t k f n = some (p2, leaf)) ∧ Hid (d ++ p2 = path) ∧ Hid (OwnPl w.heap.size wr s4 d) ∧ Hid (Below w.heap.size w wr) ∧ Hid (Blc wr w.heap.size 25 #[.slice np P.length nc, .int .i64 n0, u]))
  case atStart => exact ⟨f0, n0, [], path, rfl, Nat.le_refl _, rfl, by simp, HW, rfl, OwnPl.nil _ _, Lib.hid (by (repeat (first | exact Below.refl _ _ | assumption | refine nw_more ?_ _ _ | refine nw_alloc ?_ _ | refine nw_drew ?_ | refine nw_drewN ?_ _ | refine nw_set ?_ (by first | (simp; done) | (simp; omega) | omega) _))), Lib.hid (Blc.new _ _ _)⟩
  case round =>
    clear HW
    obtain ⟨f, q, d, p2, rfl, hf, rfl, hdl, HWY, HD, HO, HB, HX⟩ := hrel
    obtain ⟨f', y, rfl, hy⟩ := way_some HWY.out
    obtain ⟨x, hx, hxy⟩ : ∃ x, P[q]? = some x ∧ x.n = y := by
      rw [HND.out] at hy
      unfold ndsOf at hy
      rw [List.getElem?_map] at hy
      cases hx : P[q]? with
      | none => rw [hx] at hy; cases hy
      | some x => rw [hx] at hy; exact ⟨x, rfl, Option.some.inj hy⟩
    subst hxy
    obtain ⟨b, off, cap, p1, c1, p3, c3, p4, c4, e0, hk, hb, e1, e2, e3, hc0, hc1, hc2, hc3, hn⟩ := nodes_get (HN.out.below HB.out) hx
    obtain ⟨rfl, rfl⟩ : np = some ⟨b, off, none⟩ ∧ nc = cap := by simpa using e0
    have hx0 := HX.out.cell 0
    simp only [List.getElem?_toArray, List.getElem?_cons_zero] at hx0
    have hlx : Lt w.heap.size wr.heap.size := HX.out.lt
    have k1 : (q : Int) < (P.length : Int) := by omega
    have k0 : (0 : Int) ≤ (q : Int) := by omega
    have HXN := Lib.hid hx
    have hnw : NodeIn K B w x := HN.out.2.2 x (List.mem_of_getElem? hx)
    cases hlf : x.n.leaf
    · obtain ⟨hrise, c, p', hkc, hwc, rfl⟩ := way_inner hy hlf HWY.out
      rw [hlf] at hc3
      have hkf := fun w' (hb : Below w.heap.size w w') => kidFor_any K B w' x.kv x.rv x.cv x.n k (hnw.1.below hb) hrise
      rw [e1, e2, e3, hlf] at hkf
      have HKF := Lib.hid hkf
      generalize kidN K k x.n = kn at *
      have HKC := Lib.hid hkc
      have HWC := Lib.hid hwc
      have HD2 : Hid ((d ++ [(q, kn)]) ++ p' = path) := Lib.hid (by rw [List.append_assoc]; exact HD.out)
      generalize x.n.keys.length = lk at *
      generalize x.n.rows.length = lr at *
      generalize x.n.kids.length = lc at *
      clear hkf hkc hwc hy HWY hnw hn e0 e1 e2 e3 hx hrise hlf HD
      go_wp2_with fail
      refine (HKF.out _ (nw_trans HB.out (by (repeat (first | exact Below.refl _ _ | assumption | refine nw_more ?_ _ _ | refine nw_alloc ?_ _ | refine nw_drew ?_ | refine nw_drewN ?_ _ | refine nw_set ?_ (by first | (simp; done) | (simp; omega) | omega) _))))).mono ?_
      (rintro e w' ⟨rfl, hb⟩; obtain ⟨n, es, rfl⟩ := below_more hb; clear hb)
      go_wp2_with (at_builtin; refine wpList_append_own _ rfl _ _ 57 rfl w.heap.size 82 i0 (.agg #[.int .i64 0, .int .i64 0]) 2 16 Tryz.underlying57 HI.out hz0 hz1 hz2 rfl (by decide) _ _ _ rfl (own_below HO.out (by (repeat (first | exact Below.refl _ _ | assumption | refine nw_more ?_ _ _ | refine nw_alloc ?_ _ | refine nw_drew ?_ | refine nw_drewN ?_ _ | refine nw_set ?_ (by first | (simp; done) | (simp; omega) | omega) _)))) ⟨_, 0, none⟩ 1 1 [.int .i64 q, .int .i64 kn] rfl rfl ?c1 ?c2 ?c3 ?c4 ?c5 ?_)
      case c1 => exact news2 (by simp [go_sem]) (by simp [go_sem])
      case c2 => exact news2_one rfl rfl
      case c3 => unfold maxLen; omega
      case c4 => omega
      case c5 => have := HB.out.size; simp; omega
      intro v' w2 hown' hgrow hnil
      have hbx : (_ : Value).ownBlock ≠ some (wr.heap.size + es.size) := fun e => by
        have := (World.ownsRow.lt HO.out _ e).2
        omega
      have c0 : w2.cell? ⟨wr.heap.size + es.size, 0, none⟩ = some (.int .i64 q) := hgrow.cell (a := ⟨wr.heap.size + es.size, 0, none⟩) (by simp [go_sem]) (fun e => hbx e.symm)
      have c1 : w2.cell? ⟨wr.heap.size + es.size, 1, none⟩ = some (.int .i64 kn) := hgrow.cell (a := ⟨wr.heap.size + es.size, 1, none⟩) (by simp [go_sem]) (fun e => hbx e.symm)
      have HB' := Lib.hid (below_append (w := w) (by have hbel := HB.out; (repeat (first | exact Below.refl _ _ | assumption | refine nw_more ?_ _ _ | refine nw_alloc ?_ _ | refine nw_drew ?_ | refine nw_drewN ?_ _ | refine nw_set ?_ (by first | (simp; done) | (simp; omega) | omega) _))) (own_below HO.out (by (repeat (first | exact Below.refl _ _ | assumption | refine nw_more ?_ _ _ | refine nw_alloc ?_ _ | refine nw_drew ?_ | refine nw_drewN ?_ _ | refine nw_set ?_ (by first | (simp; done) | (simp; omega) | omega) _)))) hgrow)
      have HX' := Lib.hid ((((HX.out.mre n es).alloc (Obj.cells #[.int .i64 q, .int .i64 kn] 82)).alloc (Obj.cells #[.int .i64 q, .int .i64 kn] 82)).grown hgrow (OwnPl.not HO.out HX.out (by decide)))
      have HO' := Lib.hid (OwnPl.snoc (x := (q, kn)) hown')
      have hx0' := HX'.out.cell 0
      have hx1' := HX'.out.cell 1
      simp only [List.getElem?_toArray, List.getElem?_cons_succ, List.getElem?_cons_zero] at hx0' hx1'
      have hx2' := HX'.out.cell 2
      simp only [List.getElem?_toArray, List.getElem?_cons_succ, List.getElem?_cons_zero] at hx2'
      clear hown' hgrow hnil hbx HO HB HX hc0 hc1 hc2 hc3 hx0
      go_wp2_with fail
      refine (kidAt_any K B _ _ _ _ P q kn x c (HN.out.below (nw_trans HB'.out (by (repeat (first | exact Below.refl _ _ | assumption | refine nw_more ?_ _ _ | refine nw_alloc ?_ _ | refine nw_drew ?_ | refine nw_drewN ?_ _ | refine nw_set ?_ (by first | (simp; done) | (simp; omega) | omega) _))))) HXN.out HKC.out).mono ?_
      (rintro e w' ⟨rfl, hb⟩; obtain ⟨n, es, rfl⟩ := below_more hb; clear hb)
      go_wp2
      go_roundg (f' + 1)
      case measure => omega
      case rel => exact ⟨f', c, _, p', rfl, by omega, rfl, by simp; omega, HWC, HD2, Lib.hid (own_below HO'.out (by (repeat (first | exact Below.refl _ _ | assumption | refine nw_more ?_ _ _ | refine nw_alloc ?_ _ | refine nw_drew ?_ | refine nw_drewN ?_ _ | refine nw_set ?_ (by first | (simp; done) | (simp; omega) | omega) _)))), Lib.hid (by have hbel := HB'.out; (repeat (first | exact Below.refl _ _ | assumption | refine nw_more ?_ _ _ | refine nw_alloc ?_ _ | refine nw_drew ?_ | refine nw_drewN ?_ _ | refine nw_set ?_ (by first | (simp; done) | (simp; omega) | omega) _))), Lib.hid (HX'.out.mre _ _)⟩
    · rw [hlf] at hc3
      have h1 := HWY.out
      rw [way_leaf hy hlf] at h1
      simp only [Option.some.injEq, Prod.mk.injEq] at h1
      obtain ⟨rfl, rfl⟩ := h1
      have HE : Hid (d = path) := Lib.hid (by have := HD.out; rw [List.append_nil] at this; exact this)
      clear hy HWY hnw hn hx hlf HD e0
      go_wp2
      go_ret2
      exact ⟨_, rfl, by rw [← HE.out]; exact HO.out, HB.out⟩
end Go.Proofs.YtaophiknldkfdaaGreatDoor
