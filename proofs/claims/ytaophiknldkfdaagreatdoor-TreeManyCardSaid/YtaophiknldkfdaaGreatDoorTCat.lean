/- slices.Grow of nothing, and append of a whole slice onto a row that the call owns. -/
import Derived.Test.YtaophiknldkfdaaGreatDoorTreeR
import Derived.Shelf.Spec.SlicesGrow
import Derived.Deep.Upon
namespace Go.Proofs.YtaophiknldkfdaaGreatDoor
open Go.RowKit

def growS_ren : Go.Shelf.Ren := ⟨fun | 4 => 92 | n => n, fun | 22 => 51 | 25 => 9 | 9 => 9 | 3 => 3 | 4 => 4 | 20 => 20 | 0 => 0 | n => n, fun | n => n⟩
theorem laysGrowS : Go.Proofs.Lays8.n4 Tryz.prog growS_ren := {
  mixed := by kernel_rfl
  f4 := ⟨ "slices.Grow[[]string,string]", rfl, Tryz.func92.trans (congrArg some (by kernel_rfl))⟩
  t0 := Tryz.underlying0
  a0 := Tryz.isAgg0
  z0 := Tryz.sizeOf0
  v0 := Tryz.zeroValue0
  t3 := Tryz.underlying3
  a3 := Tryz.isAgg3
  z3 := Tryz.sizeOf3
  v3 := Tryz.zeroValue3
  t4 := Tryz.underlying4
  a4 := Tryz.isAgg4
  z4 := Tryz.sizeOf4
  v4 := Tryz.zeroValue4
  t9 := Tryz.underlying9
  a9 := Tryz.isAgg9
  z9 := Tryz.sizeOf9
  v9 := Tryz.zeroValue9
  t20 := Tryz.underlying20
  a20 := Tryz.isAgg20
  z20 := Tryz.sizeOf20
  v20 := Tryz.zeroValue20
  t22 := Tryz.underlying51
  a22 := Tryz.isAgg51
  z22 := Tryz.sizeOf51
  v22 := Tryz.zeroValue51 }
def growI_ren : Go.Shelf.Ren := ⟨fun | 4 => 93 | n => n, fun | 22 => 23 | 25 => 3 | 9 => 9 | 3 => 3 | 4 => 4 | 20 => 20 | 0 => 0 | n => n, fun | n => n⟩
theorem laysGrowI : Go.Proofs.Lays8.n4 Tryz.prog growI_ren := {
  mixed := by kernel_rfl
  f4 := ⟨ "slices.Grow[[]int,int]", rfl, Tryz.func93.trans (congrArg some (by kernel_rfl))⟩
  t0 := Tryz.underlying0
  a0 := Tryz.isAgg0
  z0 := Tryz.sizeOf0
  v0 := Tryz.zeroValue0
  t3 := Tryz.underlying3
  a3 := Tryz.isAgg3
  z3 := Tryz.sizeOf3
  v3 := Tryz.zeroValue3
  t4 := Tryz.underlying4
  a4 := Tryz.isAgg4
  z4 := Tryz.sizeOf4
  v4 := Tryz.zeroValue4
  t9 := Tryz.underlying9
  a9 := Tryz.isAgg9
  z9 := Tryz.sizeOf9
  v9 := Tryz.zeroValue9
  t20 := Tryz.underlying20
  a20 := Tryz.isAgg20
  z20 := Tryz.sizeOf20
  v20 := Tryz.zeroValue20
  t22 := Tryz.underlying23
  a22 := Tryz.isAgg23
  z22 := Tryz.sizeOf23
  v22 := Tryz.zeroValue23 }

theorem info_string : (Tryz.prog.info? 9).map (fun i => (i.zero, i.size, i.bytes)) = some (some (.string { data := #[] }), 1, 16) := by kernel_rfl
/-- A slice's elements, behind an address or none, onto an own row of elements of one cell. -/
theorem run_append_seq {P : Program} (w : World) (base : Nat) (t ty e : TypeId) (i : TypeInfo) (z : Value) (bytes : Nat) (ht : P.underlying t = some (.slice e)) (hi : P.info? e = some i) (hz : i.zero = some z)
    (hsize : i.size = 1) (hby : i.bytes = bytes) (hzs : z.cells.size = 1)
    (v : Value) (n : Nat) (xs : List Value) (hown : w.ownsRow base e 1 v n xs)
    (p : Option Addr) (m c : Nat) (news : List Value) (hl : news.length = m) (hsrc : (p = none ∧ m = 0) ∨ ∃ a, p = some a ∧ ∀ j u, news[j]? = some u → w.cell? (a.add j) = some u) (h1 : ∀ u ∈ news, u.oneCell' = true)
    (h63 : n + m ≤ maxLen) (hbytes : (n + m) * bytes ≤ 140737488355328) (hbase : base ≤ w.heap.size) :
    ∃ v' w', (Builtin.append_ #[t, t] ty #[v, .slice p m c]).run P w = .ok v' w' ∧ w'.ownsRow base e 1 v' (n + m) (xs ++ news) ∧ w.grownBy w' v.ownBlock ∧ (v'.ownBlock = v.ownBlock ∨ v'.ownBlock = some w.heap.size) := by
  rcases hsrc with ⟨rfl, rfl⟩ | ⟨a, rfl, hcs⟩
  · obtain rfl := List.length_eq_zero_iff.1 hl
    have hs : Src P i.size t (.slice none 0 c) 0 [] w := Src.ofNil w ht c
    rcases hown.2 with ⟨rfl, rfl⟩ | ⟨g, cap, cur, rfl, hbg, hg, hnc, hcm, hcs, htake⟩
    · exact ⟨_, _, run_append_nothing w t t ty e i ht hi none 0 0 (Nat.le_refl _) _ hs, by simpa using hown, ⟨rfl, rfl, rfl, Nat.le_refl _, fun _ _ _ => rfl⟩, .inl rfl⟩
    · exact ⟨_, _, run_append_nothing w t t ty e i ht hi (some ⟨g, 0, none⟩) n cap hnc _ hs, by simpa using hown, ⟨rfl, rfl, rfl, Nat.le_refl _, fun _ _ _ => rfl⟩, .inl rfl⟩
  · obtain ⟨v', w', h2, h3, h4, h5, h6⟩ := run_append_own_at w base t ty e i z 1 bytes ht hi hz hsize hby hzs (by decide) v n xs hown a m c news (by rw [hl, Nat.mul_one]) hcs h1 h63 hbytes hbase
    exact ⟨v', w', h2, h3, h4, h6⟩
theorem wpList_append_seq {P : Program} (w : World) {ops : Array Oper} {rest : List Oper} {o : Oper} {a : Act} {Q : Exit → Act → World → Prop} (hgd : o.guard = none) (s x : Operand) (t : TypeId)
    (ho : o.op = .call { callee := .builtin .append, args := #[s, x], argTypes := #[t, t] })
    (base : Nat) (e : TypeId) (i : TypeInfo) (z : Value) (bytes : Nat) (ht : P.underlying t = some (.slice e)) (hi : P.info? e = some i) (hz : i.zero = some z)
    (hsize : i.size = 1) (hby : i.bytes = bytes) (hzs : z.cells.size = 1)
    (v : Value) (n : Nat) (xs : List Value) (hs : a.eval s = v) (hown : w.ownsRow base e 1 v n xs)
    (p : Option Addr) (m c : Nat) (news : List Value) (hx : a.eval x = .slice p m c) (hl : news.length = m) (hsrc : (p = none ∧ m = 0) ∨ ∃ ad, p = some ad ∧ ∀ j u, news[j]? = some u → w.cell? (ad.add j) = some u) (h1 : ∀ u ∈ news, u.oneCell' = true)
    (h63 : n + m ≤ maxLen) (hbytes : (n + m) * bytes ≤ 140737488355328) (hbase : base ≤ w.heap.size)
    (h : ∀ v' w', w'.ownsRow base e 1 v' (n + m) (xs ++ news) → w.grownBy w' v.ownBlock → (v'.ownBlock = v.ownBlock ∨ v'.ownBlock = some w.heap.size) → wpList P ops Q rest (a.put o.dst v') w') :
    wpList P ops Q (o :: rest) a w := by
  obtain ⟨v', w', hr, h2, h3, h4⟩ := run_append_seq (P := P) w base t o.type e i z bytes ht hi hz hsize hby hzs v n xs hown p m c news hl hsrc h1 h63 hbytes hbase
  exact Lib.wpList_append_run w hgd s x t t ho v _ hs hx v' w' hr (h v' w' h2 h3 h4)

theorem cell_add2 (w : World) (b off j : Nat) : w.cell? ((⟨b, off, none⟩ : Addr).add j) = w.cell? ⟨b, off + j, none⟩ := by
  cases j with
  | zero => rfl
  | succ j => simp [Addr.add]
theorem IntsIn.src {B : Nat} {w : World} {p : Option Addr} {m c : Nat} {l : List Int} (h : IntsIn B w (.slice p m c) l) : (p = none ∧ m = 0) ∨ ∃ a, p = some a ∧ ∀ j u, (l.map (Value.int .i64))[j]? = some u → w.cell? (a.add j) = some u := by
  obtain ⟨h0, p', cap', e, h1, h2⟩ := h
  cases e
  by_cases hl : l.length = 0
  · cases p with
    | none => exact .inl ⟨rfl, hl⟩
    | some a => exact .inr ⟨a, rfl, fun j u hj => by
        obtain rfl := List.length_eq_zero_iff.1 hl
        simp at hj⟩
  · obtain ⟨b, off, rfl, -⟩ := h2 0 (by omega)
    refine .inr ⟨_, rfl, fun j u hj => ?_⟩
    have hj2 : j < l.length := by
      have := (List.getElem?_eq_some_iff.1 hj).1
      simpa using this
    obtain ⟨b', off', e2, -, -, hc⟩ := h2 j hj2
    cases e2
    rw [cell_add2, hc, ← hj]
    simp [List.getD, hj2]
theorem StrsIn.src {B : Nat} {w : World} {p : Option Addr} {m c : Nat} {l : List ByteArray} (h : StrsIn B w (.slice p m c) l) : (p = none ∧ m = 0) ∨ ∃ a, p = some a ∧ ∀ j u, (l.map Value.string)[j]? = some u → w.cell? (a.add j) = some u := by
  obtain ⟨h0, hz, p', cap', e, h1, h2⟩ := h
  cases e
  by_cases hl : l.length = 0
  · cases p with
    | none => exact .inl ⟨rfl, hl⟩
    | some a => exact .inr ⟨a, rfl, fun j u hj => by
        obtain rfl := List.length_eq_zero_iff.1 hl
        simp at hj⟩
  · obtain ⟨b, off, rfl, -⟩ := h2 0 (by omega)
    refine .inr ⟨_, rfl, fun j u hj => ?_⟩
    have hj2 : j < l.length := by
      have := (List.getElem?_eq_some_iff.1 hj).1
      simpa using this
    obtain ⟨b', off', e2, -, -, hc⟩ := h2 j hj2
    cases e2
    rw [cell_add2, hc, ← hj]
    simp [List.getD, hj2]

/-- Grow of nothing: an own row without elements. -/
theorem growI_any (w : World) (n : Nat) (hn : n ≤ 1000000) :
    Calls Tryz.prog 93 #[.slice none 0 0, .int .i64 n] w fun e w' => ∃ u, e = .returned u ∧ w'.ownsRow w.heap.size 3 1 u 0 [] ∧ Below w.heap.size w w' := by
  obtain ⟨i0, hi, hz0, hz1, hz2⟩ := info_parts info_int
  by_cases h0 : n = 0
  · subst h0
    refine (Any8.slices_Grow_room laysGrowI none 0 0 0 w (Nat.le_refl _) (by decide) (by decide) (by decide)).mono ?_
    rintro e w' ⟨rfl, rfl⟩
    exact ⟨_, rfl, World.ownsRow_nil _ _ _ _, Below.refl _ _⟩
  · refine (Any8.slices_Grow_grow laysGrowI i0 (.int .i64 0) hi hz0 (by rw [hz1]; decide) none 0 0 n [] w (Nat.le_refl _) (by omega) (by rw [hz2]; omega) (by omega) (by simp) (fun _ => rfl) (by simp)).mono ?_
    rintro e w' ⟨rfl, rfl⟩
    have hg := grownCap_ge w (0 + n) 0 (growI_ren.t 25)
    have hm := grownCap_le_maxLen w (0 + n) 0 (growI_ren.t 25) (by unfold maxLen; omega)
    refine ⟨_, rfl, ⟨by simp, .inr ⟨w.heap.size, _, _, rfl, Nat.le_refl _, heap_alloc_new w.drew _, by omega, hm, ?_, by simp⟩⟩, nw_alloc (nw_drew (Below.refl _ _)) _⟩
    rw [Array.size_append, Array.size_append, size_zeroCells, size_zeroCells]
    rw [Nat.zero_add] at hg
    simp only [Value.cells, List.size_toArray, List.length_nil]
    show _ = grownCap w (0 + n) 0 (growI_ren.t 25) * 1
    simp
    omega
def CatI (w : World) (wr : World) (v : Value) (k : Nat) (l1 l2 : List Int) : Prop :=
  ∃ d : List Int, wr.ownsRow w.heap.size 3 1 v d.length (d.map (Value.int .i64)) ∧ Below w.heap.size w wr ∧ ((0 = k ∧ [] = d) ∨ (1 = k ∧ l1 = d) ∨ (2 = k ∧ l1 ++ l2 = d))
theorem catI_step {w wr w' : World} {v v' : Value} {k : Nat} {l1 l2 d l : List Int} (h : wr.ownsRow w.heap.size 3 1 v d.length (d.map (Value.int .i64))) (hb : Below w.heap.size w wr) (h' : w'.ownsRow w.heap.size 3 1 v' (d.length + l.length) (d.map (Value.int .i64) ++ l.map (Value.int .i64))) (hg : wr.grownBy w' v.ownBlock) (hk : (1 = k + 1 ∧ l1 = d ++ l) ∨ (2 = k + 1 ∧ l1 ++ l2 = d ++ l)) : CatI w w' v' (k + 1) l1 l2 := by
  refine ⟨d ++ l, by rw [List.length_append, List.map_append]; exact h', Below.grown hb hg hb.size (fun g e => (World.ownsRow.lt h g e).1), ?_⟩
  rcases hk with h | h
  · exact .inr (.inl h)
  · exact .inr (.inr h)
set_option maxRecDepth 100000 in
set_option maxHeartbeats 2000000 in
theorem concatI_any (B : Nat) (w : World) (sb n1 n2 c1 c2 : Nat) (p1 p2 : Option Addr) (T : TypeId) (l1 l2 : List Int) (h1 : IntsIn B w (.slice p1 n1 c1) l1) (h2 : IntsIn B w (.slice p2 n2 c2) l2) (hn1 : l1.length = n1) (hn2 : l2.length = n2) (hc : Blc w sb T #[.slice p1 n1 c1, .slice p2 n2 c2]) (hl : n1 + n2 ≤ 1000000) :
    Calls Tryz.prog 83 #[.slice (some ⟨sb, 0, none⟩) 2 2] w fun e w' => ∃ u, e = .returned u ∧ OwnI w.heap.size w' u (l1 ++ l2) ∧ Below w.heap.size w w' := by
  obtain ⟨i0, hi, hz0, hz1, hz2⟩ := info_parts info_int
  have HI := Lib.hid hi
  have H1 := Lib.hid h1
  have H2 := Lib.hid h2
  have HN1 := Lib.hid hn1
  have HN2 := Lib.hid hn2
  have HC := Lib.hid hc
  have ca := hc.cell 0
  have cb := hc.cell 1
  have hlt : Lt sb w.heap.size := hc.lt
  simp only [List.getElem?_toArray, List.getElem?_cons_succ, List.getElem?_cons_zero] at ca cb
  have hw1 : IntKind.i64.wrap (n1 : Int) = (n1 : Int) := IntWalk.i64_in _ (by omega)
  have hw2 : IntKind.i64.wrap ((n1 : Int) + (n2 : Int)) = (n1 : Int) + (n2 : Int) := IntWalk.i64_in _ (by omega)
  have hs1 : ¬ ((n1 : Int) < 0) := by omega
  have hs2 : ¬ ((n1 : Int) + (n2 : Int) < 0) := by omega
  clear h1 h2 hn1 hn2 hc hi
  go_enter Tryz.func83, Tryz.ntmps83
  go_wp2_with fail
  go_loopg [3, 11] 3 (fun g s3 s11 wr => ∃ k S : Nat, k ≤ 2 ∧ g + k = 3 ∧ s11 = .int .i64 k ∧ s3 = .int .i64 S ∧ w = wr ∧ Hid ((0 = k ∧ 0 = S) ∨ (1 = k ∧ n1 = S) ∨ (2 = k ∧ n1 + n2 = S)))
  case atStart => exact ⟨0, 0, by omega, by omega, rfl, rfl, rfl, Lib.hid (.inl ⟨rfl, rfl⟩)⟩
  case round =>
    obtain ⟨k, S, hk, hgk, rfl, rfl, rfl, HS⟩ := hrel
    obtain hs := HS.out
    rcases hs with ⟨rfl, rfl⟩ | ⟨rfl, rfl⟩ | ⟨rfl, rfl⟩
    · go_wp2
      go_roundg 2
      case measure => omega
      case rel => exact ⟨1, n1, by omega, by omega, by go_num, by go_num, rfl, Lib.hid (.inr (.inl ⟨rfl, rfl⟩))⟩
    · go_wp2
      go_roundg 1
      case measure => omega
      case rel => exact ⟨2, n1 + n2, by omega, by omega, by go_num, by go_num, rfl, Lib.hid (.inr (.inr ⟨rfl, rfl⟩))⟩
    · clear hw1 hw2 hs1 hs2 HS
      go_wp2_with (first | (go_at_call 93; refine (growI_any _ (n1 + n2) hl).mono ?_; rintro e w2 ⟨u, rfl, ho, hb⟩))
      have HST : Hid (CatI w w2 u 0 l1 l2) := Lib.hid ⟨[], ho, hb, .inl ⟨rfl, rfl⟩⟩
      clear ho hb
      go_loopg [6, 27] 3 (fun g s6 s27 wx => ∃ k : Nat, k ≤ 2 ∧ g + k = 3 ∧ s27 = .int .i64 k ∧ Hid (CatI w wx s6 k l1 l2))
      case atStart => exact ⟨0, by omega, by omega, rfl, HST⟩
      case round =>
        obtain ⟨k, hk, hgk, rfl, HS⟩ := hrel
        obtain ⟨d, ho, hb, hd⟩ := HS.out
        have hca : wr.cell? ⟨sb, 0, none⟩ = some (.slice p1 n1 c1) := (hb.cell (p := ⟨sb, 0, none⟩) hlt).trans ca
        have hcb : wr.cell? ⟨sb, 1, none⟩ = some (.slice p2 n2 c2) := (hb.cell (p := ⟨sb, 1, none⟩) hlt).trans cb
        have hlt2 : Lt sb wr.heap.size := Nat.lt_of_lt_of_le hlt hb.size
        have HO := Lib.hid ho
        have HB := Lib.hid hb
        clear ho hb ca cb
        rcases hd with ⟨rfl, rfl⟩ | ⟨rfl, rfl⟩ | ⟨rfl, rfl⟩
        · go_wp2_with (first | (at_builtin; refine wpList_append_seq _ rfl _ _ 23 rfl w.heap.size 3 i0 (.int .i64 0) 8 Tryz.underlying23 HI.out hz0 hz1 hz2 rfl _ _ _ rfl HO.out p1 n1 c1 (l1.map (Value.int .i64)) rfl (by rw [List.length_map]; exact HN1.out) (IntsIn.src (H1.out.below HB.out)) (by intro u hu; obtain ⟨a, -, rfl⟩ := List.mem_map.1 hu; rfl) (by unfold maxLen; simp; omega) (by simp; omega) HB.out.size ?_; intro v3 w3 h3 h4 _))
          go_roundg 2
          case measure => omega
          case rel => exact ⟨1, by omega, by omega, by go_num, Lib.hid (catI_step HO.out HB.out (by rw [HN1.out]; exact h3) h4 (.inl ⟨rfl, rfl⟩))⟩
        · go_wp2_with (first | (at_builtin; refine wpList_append_seq _ rfl _ _ 23 rfl w.heap.size 3 i0 (.int .i64 0) 8 Tryz.underlying23 HI.out hz0 hz1 hz2 rfl _ _ _ rfl HO.out p2 n2 c2 (l2.map (Value.int .i64)) rfl (by rw [List.length_map]; exact HN2.out) (IntsIn.src (H2.out.below HB.out)) (by intro u hu; obtain ⟨a, -, rfl⟩ := List.mem_map.1 hu; rfl) (by rw [HN1.out]; unfold maxLen; omega) (by rw [HN1.out]; omega) HB.out.size ?_; intro v3 w3 h3 h4 _))
          go_roundg 1
          case measure => omega
          case rel => exact ⟨2, by omega, by omega, by go_num, Lib.hid (catI_step HO.out HB.out (by rw [HN2.out]; exact h3) h4 (.inr ⟨rfl, rfl⟩))⟩
        · go_wp2
          go_ret
          exact ⟨_, rfl, HO.out, HB.out⟩
/-- Grow of nothing: an own row without elements. -/
theorem growS_any (w : World) (n : Nat) (hn : n ≤ 1000000) :
    Calls Tryz.prog 92 #[.slice none 0 0, .int .i64 n] w fun e w' => ∃ u, e = .returned u ∧ w'.ownsRow w.heap.size 9 1 u 0 [] ∧ Below w.heap.size w w' := by
  obtain ⟨i0, hi, hz0, hz1, hz2⟩ := info_parts info_string
  by_cases h0 : n = 0
  · subst h0
    refine (Any8.slices_Grow_room laysGrowS none 0 0 0 w (Nat.le_refl _) (by decide) (by decide) (by decide)).mono ?_
    rintro e w' ⟨rfl, rfl⟩
    exact ⟨_, rfl, World.ownsRow_nil _ _ _ _, Below.refl _ _⟩
  · refine (Any8.slices_Grow_grow laysGrowS i0 (.string { data := #[] }) hi hz0 (by rw [hz1]; decide) none 0 0 n [] w (Nat.le_refl _) (by omega) (by rw [hz2]; omega) (by omega) (by simp) (fun _ => rfl) (by simp)).mono ?_
    rintro e w' ⟨rfl, rfl⟩
    have hg := grownCap_ge w (0 + n) 0 (growS_ren.t 25)
    have hm := grownCap_le_maxLen w (0 + n) 0 (growS_ren.t 25) (by unfold maxLen; omega)
    refine ⟨_, rfl, ⟨by simp, .inr ⟨w.heap.size, _, _, rfl, Nat.le_refl _, heap_alloc_new w.drew _, by omega, hm, ?_, by simp⟩⟩, nw_alloc (nw_drew (Below.refl _ _)) _⟩
    rw [Array.size_append, Array.size_append, size_zeroCells, size_zeroCells]
    rw [Nat.zero_add] at hg
    simp only [Value.cells, List.size_toArray, List.length_nil]
    show _ = grownCap w (0 + n) 0 (growS_ren.t 25) * 1
    simp
    omega
def CatS (w : World) (wr : World) (v : Value) (k : Nat) (l1 l2 : List ByteArray) : Prop :=
  ∃ d : List ByteArray, wr.ownsRow w.heap.size 9 1 v d.length (d.map Value.string) ∧ Below w.heap.size w wr ∧ ((0 = k ∧ [] = d) ∨ (1 = k ∧ l1 = d) ∨ (2 = k ∧ l1 ++ l2 = d))
theorem catS_step {w wr w' : World} {v v' : Value} {k : Nat} {l1 l2 d l : List ByteArray} (h : wr.ownsRow w.heap.size 9 1 v d.length (d.map Value.string)) (hb : Below w.heap.size w wr) (h' : w'.ownsRow w.heap.size 9 1 v' (d.length + l.length) (d.map Value.string ++ l.map Value.string)) (hg : wr.grownBy w' v.ownBlock) (hk : (1 = k + 1 ∧ l1 = d ++ l) ∨ (2 = k + 1 ∧ l1 ++ l2 = d ++ l)) : CatS w w' v' (k + 1) l1 l2 := by
  refine ⟨d ++ l, by rw [List.length_append, List.map_append]; exact h', Below.grown hb hg hb.size (fun g e => (World.ownsRow.lt h g e).1), ?_⟩
  rcases hk with h | h
  · exact .inr (.inl h)
  · exact .inr (.inr h)
set_option maxRecDepth 100000 in
set_option maxHeartbeats 2000000 in
theorem concatS_any (B : Nat) (w : World) (sb n1 n2 c1 c2 : Nat) (p1 p2 : Option Addr) (T : TypeId) (l1 l2 : List ByteArray) (h1 : StrsIn B w (.slice p1 n1 c1) l1) (h2 : StrsIn B w (.slice p2 n2 c2) l2) (hn1 : l1.length = n1) (hn2 : l2.length = n2) (hc : Blc w sb T #[.slice p1 n1 c1, .slice p2 n2 c2]) (hl : n1 + n2 ≤ 1000000) :
    Calls Tryz.prog 82 #[.slice (some ⟨sb, 0, none⟩) 2 2] w fun e w' => ∃ u, e = .returned u ∧ OwnS w.heap.size w' u (l1 ++ l2) ∧ Below w.heap.size w w' := by
  obtain ⟨i0, hi, hz0, hz1, hz2⟩ := info_parts info_string
  have HI := Lib.hid hi
  have H1 := Lib.hid h1
  have H2 := Lib.hid h2
  have HN1 := Lib.hid hn1
  have HN2 := Lib.hid hn2
  have HC := Lib.hid hc
  have ca := hc.cell 0
  have cb := hc.cell 1
  have hlt : Lt sb w.heap.size := hc.lt
  simp only [List.getElem?_toArray, List.getElem?_cons_succ, List.getElem?_cons_zero] at ca cb
  have hw1 : IntKind.i64.wrap (n1 : Int) = (n1 : Int) := IntWalk.i64_in _ (by omega)
  have hw2 : IntKind.i64.wrap ((n1 : Int) + (n2 : Int)) = (n1 : Int) + (n2 : Int) := IntWalk.i64_in _ (by omega)
  have hs1 : ¬ ((n1 : Int) < 0) := by omega
  have hs2 : ¬ ((n1 : Int) + (n2 : Int) < 0) := by omega
  clear h1 h2 hn1 hn2 hc hi
  go_enter Tryz.func82, Tryz.ntmps82
  go_wp2_with fail
  go_loopg [3, 11] 3 (fun g s3 s11 wr => ∃ k S : Nat, k ≤ 2 ∧ g + k = 3 ∧ s11 = .int .i64 k ∧ s3 = .int .i64 S ∧ w = wr ∧ Hid ((0 = k ∧ 0 = S) ∨ (1 = k ∧ n1 = S) ∨ (2 = k ∧ n1 + n2 = S)))
  case atStart => exact ⟨0, 0, by omega, by omega, rfl, rfl, rfl, Lib.hid (.inl ⟨rfl, rfl⟩)⟩
  case round =>
    obtain ⟨k, S, hk, hgk, rfl, rfl, rfl, HS⟩ := hrel
    obtain hs := HS.out
    rcases hs with ⟨rfl, rfl⟩ | ⟨rfl, rfl⟩ | ⟨rfl, rfl⟩
    · go_wp2
      go_roundg 2
      case measure => omega
      case rel => exact ⟨1, n1, by omega, by omega, by go_num, by go_num, rfl, Lib.hid (.inr (.inl ⟨rfl, rfl⟩))⟩
    · go_wp2
      go_roundg 1
      case measure => omega
      case rel => exact ⟨2, n1 + n2, by omega, by omega, by go_num, by go_num, rfl, Lib.hid (.inr (.inr ⟨rfl, rfl⟩))⟩
    · clear hw1 hw2 hs1 hs2 HS
      go_wp2_with (first | (go_at_call 92; refine (growS_any _ (n1 + n2) hl).mono ?_; rintro e w2 ⟨u, rfl, ho, hb⟩))
      have HST : Hid (CatS w w2 u 0 l1 l2) := Lib.hid ⟨[], ho, hb, .inl ⟨rfl, rfl⟩⟩
      clear ho hb
      go_loopg [6, 27] 3 (fun g s6 s27 wx => ∃ k : Nat, k ≤ 2 ∧ g + k = 3 ∧ s27 = .int .i64 k ∧ Hid (CatS w wx s6 k l1 l2))
      case atStart => exact ⟨0, by omega, by omega, rfl, HST⟩
      case round =>
        obtain ⟨k, hk, hgk, rfl, HS⟩ := hrel
        obtain ⟨d, ho, hb, hd⟩ := HS.out
        have hca : wr.cell? ⟨sb, 0, none⟩ = some (.slice p1 n1 c1) := (hb.cell (p := ⟨sb, 0, none⟩) hlt).trans ca
        have hcb : wr.cell? ⟨sb, 1, none⟩ = some (.slice p2 n2 c2) := (hb.cell (p := ⟨sb, 1, none⟩) hlt).trans cb
        have hlt2 : Lt sb wr.heap.size := Nat.lt_of_lt_of_le hlt hb.size
        have HO := Lib.hid ho
        have HB := Lib.hid hb
        clear ho hb ca cb
        rcases hd with ⟨rfl, rfl⟩ | ⟨rfl, rfl⟩ | ⟨rfl, rfl⟩
        · go_wp2_with (first | (at_builtin; refine wpList_append_seq _ rfl _ _ 51 rfl w.heap.size 9 i0 (.string { data := #[] }) 16 Tryz.underlying51 HI.out hz0 hz1 hz2 rfl _ _ _ rfl HO.out p1 n1 c1 (l1.map Value.string) rfl (by rw [List.length_map]; exact HN1.out) (StrsIn.src (H1.out.below HB.out)) (by intro u hu; obtain ⟨a, -, rfl⟩ := List.mem_map.1 hu; rfl) (by unfold maxLen; simp; omega) (by simp; omega) HB.out.size ?_; intro v3 w3 h3 h4 _))
          go_roundg 2
          case measure => omega
          case rel => exact ⟨1, by omega, by omega, by go_num, Lib.hid (catS_step HO.out HB.out (by rw [HN1.out]; exact h3) h4 (.inl ⟨rfl, rfl⟩))⟩
        · go_wp2_with (first | (at_builtin; refine wpList_append_seq _ rfl _ _ 51 rfl w.heap.size 9 i0 (.string { data := #[] }) 16 Tryz.underlying51 HI.out hz0 hz1 hz2 rfl _ _ _ rfl HO.out p2 n2 c2 (l2.map Value.string) rfl (by rw [List.length_map]; exact HN2.out) (StrsIn.src (H2.out.below HB.out)) (by intro u hu; obtain ⟨a, -, rfl⟩ := List.mem_map.1 hu; rfl) (by rw [HN1.out]; unfold maxLen; omega) (by rw [HN1.out]; omega) HB.out.size ?_; intro v3 w3 h3 h4 _))
          go_roundg 1
          case measure => omega
          case rel => exact ⟨2, by omega, by omega, by go_num, Lib.hid (catS_step HO.out HB.out (by rw [HN2.out]; exact h3) h4 (.inr ⟨rfl, rfl⟩))⟩
        · go_wp2
          go_ret
          exact ⟨_, rfl, HO.out, HB.out⟩
end Go.Proofs.YtaophiknldkfdaaGreatDoor
