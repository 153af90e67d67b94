/- The library's functions, by their contracts: clone, sort, over slices that read as lists. -/
import Derived.Test.YtaophiknldkfdaaGreatDoorWPlain
import Derived.Test.YtaophiknldkfdaaGreatDoorShelf
import Derived.WalkKit
import Derived.WalkSpells
import Derived.IntWalk
import Derived.Lib.OwnBridge
import Derived.Sort.Grow
import Derived.Shelf.Spec.SlicesInsertGrow
namespace Go.Proofs.YtaophiknldkfdaaGreatDoor
open Go.RowKit

/-- A row of numbers that the call owns. -/
def OwnI (B : Nat) (w : World) (v : Value) (l : List Int) : Prop := w.ownsRow B 3 1 v l.length (l.map (Value.int .i64))
theorem OwnI.at {B : Nat} {w : World} {v : Value} {l : List Int} (h : OwnI B w v l) (hl : l.length ≤ 1000000) : IntsAt w v l := IntsAt.own h hl
theorem OwnI.nil (B : Nat) (w : World) : OwnI B w (.slice none 0 0) [] := World.ownsRow_nil _ _ _ _

theorem below_grow {B : Nat} {w0 w : World} (h : Below B w0 w) (hB : B ≤ w.heap.size) (os : Array Obj) : Below B w0 (Sort.grow w os) :=
  ⟨h.os, h.tape, h.output, by have := h.size; simp [Sort.grow]; omega, fun k hk => by
    rw [← h.block k hk]
    simp only [Sort.grow]
    rw [Array.getElem?_append_left (by omega)]⟩

theorem clone_any (w : World) (v : Value) (l : List Int) (h : IntsAt w v l) :
    Calls Tryz.prog 44 #[v] w fun e w' => ∃ u, e = .returned u ∧ OwnI w.heap.size w' u l ∧ Below w.heap.size w w' := by
  rcases h.form with ⟨rfl, p, cap, rfl⟩ | ⟨b, off, cap, rfl, hp, hcap, hl, hb, hc⟩
  · cases p with
    | none =>
      refine (Tryz.slices_Clone_int_nil 0 cap w).mono ?_
      rintro e w' ⟨rfl, rfl⟩
      exact ⟨_, rfl, OwnI.nil _ _, Below.refl _ _⟩
    | some a =>
      refine (Tryz.slices_Clone_int_zero a cap w).mono ?_
      rintro e w' ⟨u, rfl, ho, -, hb⟩
      exact ⟨u, rfl, ho, hb⟩
  · refine (Tryz.slices_Clone_int b off l.length cap l w (Nat.le_refl _) (by omega) hc).mono ?_
    rintro e w' ⟨u, rfl, ho, -, hb⟩
    rw [List.take_length] at ho
    exact ⟨u, rfl, ho, hb⟩

theorem sorted_length (l : List Int) : (sorted l).length = l.length := List.length_mergeSort _
theorem sort_any (B : Nat) (w : World) (v : Value) (l : List Int) (h : OwnI B w v l) (hB : B ≤ w.heap.size) (hl : l.length ≤ 1000000) :
    Calls Tryz.prog 73 #[v] w fun e w' => e = .returned (.tuple #[]) ∧ OwnI B w' v (sorted l) ∧ Below B w w' := by
  by_cases hv : v = .slice none 0 0
  · subst hv
    have hl0 : l = [] := by
      rcases h.2 with ⟨-, h0⟩ | ⟨g, cap, cur, e0, -⟩
      · exact List.length_eq_zero_iff.1 h0
      · cases e0
    subst hl0
    refine (Tryz.slices_Sort_int_none none 0 w).mono ?_
    rintro e w' ⟨rfl, rfl⟩
    exact ⟨rfl, by simpa [sorted] using OwnI.nil B _, Below.refl _ _⟩
  · obtain ⟨g, cap, rfl, hb, hg, hc, hm, -, hH⟩ := Go.Lib.holds_of_ownsRow h hv
    refine (Tryz.slices_Sort_int g 0 cap l w hH hg (by omega)).mono ?_
    rintro e w' ⟨rfl, n, os, rfl⟩
    have ho := Go.Lib.ownsRow_putRow (q := n) (ys := sorted l) h (sorted_length l) (Nat.le_refl _)
    have hbel : Below B w (Sort.putRow (Value.int .i64) (Sort.ahead w n) g 0 (sorted l).toArray) := Go.Lib.below_putRow (Below.refl _ _) hb
    refine ⟨rfl, ?_, below_grow hbel (by have := hbel.size; omega) os⟩
    have h1 : OwnI B (Sort.putRow (Value.int .i64) (Sort.ahead w n) g 0 (sorted l).toArray) (.slice (some ⟨g, 0, none⟩) l.length cap) (sorted l) := by
      unfold OwnI
      rw [sorted_length]
      rw [List.take_of_length_le (by rw [sorted_length]; exact Nat.le_refl _)] at ho
      exact ho
    exact own_below h1 (below_grow (Below.refl _ _) (Nat.le_refl _) os)


theorem OwnI.inn {B : Nat} {w : World} {v : Value} {l : List Int} (h : OwnI B w v l) (hl : l.length ≤ 1000000) : IntsIn B w v l := IntsIn.own h hl
theorem OwnI.below {B : Nat} {w w' : World} {u : Value} {l : List Int} (h : OwnI B w u l) (hb : Below w.heap.size w w') : OwnI B w' u l := own_below h hb
theorem OwnI.slice {B : Nat} {w : World} {u : Value} {l : List Int} (ho : OwnI B w u l) : ∃ q qc, u = .slice q l.length qc := by
  rcases ho.2 with ⟨rfl, h0⟩ | ⟨g, c, cur, rfl, -⟩
  · exact ⟨none, 0, by rw [h0]⟩
  · exact ⟨_, _, rfl⟩
theorem OwnI.snoc {B : Nat} {w : World} {v : Value} {l : List Int} {y : Int} (h : w.ownsRow B 3 1 v (l.length + 1) (l.map (Value.int .i64) ++ [.int .i64 y])) : OwnI B w v (l ++ [y]) := by
  unfold OwnI; rw [List.length_append, List.map_append]; exact h

/-- A row of strings that the call owns. -/
def OwnS (B : Nat) (w : World) (v : Value) (S : List ByteArray) : Prop := w.ownsRow B 9 1 v S.length (S.map Value.string)
theorem OwnS.inn {B : Nat} {w : World} {v : Value} {S : List ByteArray} (h : OwnS B w v S) (hl : S.length ≤ 1000000) (hz : ∀ s ∈ S, s.size ≤ 140737488355328) : StrsIn B w v S := StrsIn.own h hl hz
theorem OwnS.nil (B : Nat) (w : World) : OwnS B w (.slice none 0 0) [] := World.ownsRow_nil _ _ _ _
theorem OwnS.below {B : Nat} {w w' : World} {u : Value} {S : List ByteArray} (h : OwnS B w u S) (hb : Below w.heap.size w w') : OwnS B w' u S := own_below h hb
theorem OwnS.snoc {B : Nat} {w : World} {v : Value} {l : List ByteArray} {y : ByteArray} (h : w.ownsRow B 9 1 v (l.length + 1) (l.map Value.string ++ [.string y])) : OwnS B w v (l ++ [y]) := by
  unfold OwnS; rw [List.length_append, List.map_append]; exact h
theorem OwnS.slice {B : Nat} {w : World} {u : Value} {l : List ByteArray} (ho : OwnS B w u l) (hp : 0 < l.length) : ∃ g cap, u = .slice (some ⟨g, 0, none⟩) l.length cap ∧ B ≤ g ∧ g < w.heap.size := by
  rcases ho.2 with ⟨-, h0⟩ | ⟨g, c, cur, rfl, hb, hg, -⟩
  · omega
  · exact ⟨g, c, rfl, hb, (Array.getElem?_eq_some_iff.1 hg).1⟩
theorem OwnS.form {B : Nat} {w : World} {u : Value} {l : List ByteArray} (ho : OwnS B w u l) : ∃ q qc, u = .slice q l.length qc := by
  rcases ho.2 with ⟨rfl, h0⟩ | ⟨g, c, cur, rfl, -⟩
  · exact ⟨none, 0, by rw [h0]⟩
  · exact ⟨_, _, rfl⟩
theorem OwnS.cell {B : Nat} {w : World} {g cap : Nat} {l : List ByteArray} (h : OwnS B w (.slice (some ⟨g, 0, none⟩) l.length cap) l) (j : Nat) (hj : j < l.length) : w.cell? ⟨g, j, none⟩ = some (.string (l.getD j E0)) ∧ w.frozen? ⟨g, j, none⟩ = false := by
  refine ⟨?_, World.ownsRow.frozenAt h j⟩
  have := World.ownsRow.cellAt h j (by omega)
  rw [this]; simp [List.getD, hj]
theorem OwnS.set {B : Nat} {w : World} {g cap : Nat} {l : List ByteArray} (h : OwnS B w (.slice (some ⟨g, 0, none⟩) l.length cap) l) (j : Nat) (s : ByteArray) : OwnS B (w.setCell ⟨g, j, none⟩ (.string s)) (.slice (some ⟨g, 0, none⟩) l.length cap) (l.set j s) := by
  have := (World.ownsRow.stored h j (.string s)).1
  unfold OwnS
  rw [List.length_set, List.map_set]; exact this

/-- What was made behind a world stays the call's own, whatever the blocks ahead of it hold. -/
theorem own_swap {X Y : World} {n m B : Nat} {es : Array Obj} {e : TypeId} {s : Nat} {v : Value} {k : Nat} {xs : List Value} (h : (more X n es).ownsRow X.heap.size e s v k xs) (hs : Y.heap.size = X.heap.size) (hB : B ≤ X.heap.size) : (more Y m es).ownsRow B e s v k xs := by
  refine ⟨h.1, ?_⟩
  rcases h.2 with h2 | ⟨g, cap, cur, hv, hb, hg, r⟩
  · exact .inl h2
  · refine .inr ⟨g, cap, cur, hv, by omega, ?_, r⟩
    simp only [more] at hg ⊢
    rw [Array.getElem?_append_right (by omega)] at hg ⊢
    rw [hs]; exact hg

theorem cloneS_any (B : Nat) (w : World) (v : Value) (l : List ByteArray) (h : StrsIn B w v l) :
    Calls Tryz.prog 45 #[v] w fun e w' => ∃ u, e = .returned u ∧ OwnS w.heap.size w' u l ∧ Below w.heap.size w w' := by
  rcases h.form with ⟨rfl, p, cap, rfl⟩ | ⟨b, off, cap, rfl, hp, hcap, hl, hb, hc⟩
  · cases p with
    | none =>
      refine (Tryz.slices_Clone_string_nil 0 cap w).mono ?_
      rintro e w' ⟨rfl, rfl⟩
      exact ⟨_, rfl, OwnS.nil _ _, Below.refl _ _⟩
    | some a =>
      refine (Tryz.slices_Clone_string_zero a cap w).mono ?_
      rintro e w' ⟨u, rfl, ho, -, hb⟩
      exact ⟨u, rfl, ho, hb⟩
  · refine (Tryz.slices_Clone_string b off l.length cap l w (Nat.le_refl _) (by omega) hc).mono ?_
    rintro e w' ⟨u, rfl, ho, -, hb⟩
    rw [List.take_length] at ho
    exact ⟨u, rfl, ho, hb⟩
end Go.Proofs.YtaophiknldkfdaaGreatDoor
/- slices.Insert: the library's contracts, laid by hand. -/
namespace Go.Proofs.YtaophiknldkfdaaGreatDoor

def insS_ren : Go.Shelf.Ren := ⟨fun | 17 => 90 | 22 => 46 | 29 => 66 | 30 => 67 | 36 => 80 | n => n, fun | 24 => 51 | 9 => 9 | 3 => 3 | 4 => 4 | 0 => 0 | n => n, fun | n => n⟩
theorem laysInsS : Go.Proofs.Lays2.n22 Tryz.prog insS_ren := {
  mixed := by kernel_rfl
  f17 := Tryz.func90.trans (congrArg some (by kernel_rfl))
  f22 := Tryz.func46.trans (congrArg some (by kernel_rfl))
  f29 := Tryz.func66.trans (congrArg some (by kernel_rfl))
  f30 := Tryz.func67.trans (congrArg some (by kernel_rfl))
  f36 := Tryz.func80.trans (congrArg some (by kernel_rfl))
  t0 := Tryz.underlying0
  a0 := Tryz.isAgg0
  z0 := Tryz.sizeOf0
  v0 := Tryz.zeroValue0
  t3 := Tryz.underlying3
  a3 := Tryz.isAgg3
  z3 := Tryz.sizeOf3
  v3 := Tryz.zeroValue3
  t4 := Tryz.underlying4
  a4 := Tryz.isAgg4
  z4 := Tryz.sizeOf4
  v4 := Tryz.zeroValue4
  t9 := Tryz.underlying9
  a9 := Tryz.isAgg9
  z9 := Tryz.sizeOf9
  v9 := Tryz.zeroValue9
  t24 := Tryz.underlying51
  a24 := Tryz.isAgg51
  z24 := Tryz.sizeOf51
  v24 := Tryz.zeroValue51
  i9 := by kernel_rfl }
def insI_ren : Go.Shelf.Ren := ⟨fun | 39 => 91 | 21 => 47 | 27 => 68 | 28 => 69 | 35 => 81 | n => n, fun | 22 => 23 | 3 => 3 | 4 => 4 | 0 => 0 | n => n, fun | n => n⟩
theorem laysInsI : Go.Proofs.Lays2.n21 Tryz.prog insI_ren := {
  mixed := by kernel_rfl
  f21 := Tryz.func47.trans (congrArg some (by kernel_rfl))
  f27 := Tryz.func68.trans (congrArg some (by kernel_rfl))
  f28 := Tryz.func69.trans (congrArg some (by kernel_rfl))
  f35 := Tryz.func81.trans (congrArg some (by kernel_rfl))
  f39 := Tryz.func91.trans (congrArg some (by kernel_rfl))
  t0 := Tryz.underlying0
  a0 := Tryz.isAgg0
  z0 := Tryz.sizeOf0
  v0 := Tryz.zeroValue0
  t3 := Tryz.underlying3
  a3 := Tryz.isAgg3
  z3 := Tryz.sizeOf3
  v3 := Tryz.zeroValue3
  t4 := Tryz.underlying4
  a4 := Tryz.isAgg4
  z4 := Tryz.sizeOf4
  v4 := Tryz.zeroValue4
  t22 := Tryz.underlying23
  a22 := Tryz.isAgg23
  z22 := Tryz.sizeOf23
  v22 := Tryz.zeroValue23
  i3 := by kernel_rfl }
end Go.Proofs.YtaophiknldkfdaaGreatDoor
/- slices.Insert of one element into a row that the call owns. -/
namespace Go.Proofs.YtaophiknldkfdaaGreatDoor
open Go.RowKit

def setsL (L : List Value) : Nat → List Value → List Value
  | _, [] => L
  | o, v :: r => setsL (L.set o v) (o + 1) r
theorem setsL_eq (vs : List Value) : ∀ (L : List Value) (o : Nat), o + vs.length ≤ L.length → setsL L o vs = L.take o ++ vs ++ L.drop (o + vs.length) := by
  induction vs with
  | nil => intro L o h; simp [setsL]
  | cons v r ih =>
    intro L o h
    simp only [List.length_cons] at h
    rw [setsL, ih _ _ (by rw [List.length_set]; omega)]
    have ho : o < L.length := by omega
    rw [List.set_eq_take_append_cons_drop, if_pos ho]
    have h1 : (L.take o ++ v :: L.drop (o + 1)).take (o + 1) = L.take o ++ [v] := by
      rw [List.take_append, List.length_take, Nat.min_eq_left (by omega), List.take_of_length_le (by simp; omega), show o + 1 - o = 1 by omega]
      rfl
    have h2 : (L.take o ++ v :: L.drop (o + 1)).drop (o + 1 + r.length) = L.drop (o + (r.length + 1)) := by
      rw [List.drop_append, List.length_take, Nat.min_eq_left (by omega), List.drop_eq_nil_of_le (by simp; omega), show o + 1 + r.length - o = r.length + 1 by omega]
      simp only [List.nil_append, List.drop_succ_cons, List.drop_drop]
      congr 1; omega
    rw [h1, h2]
    simp
theorem Blc.sets {b : Nat} {T : TypeId} (vs : List Value) : ∀ {w : World} {cur : Array Value} (o : Nat), Blc w b T cur → Blc (w.setCells b o vs) b T (setsL cur.toList o vs).toArray := by
  induction vs with
  | nil => intro w cur o h; simpa [setsL, World.setCells] using h
  | cons v r ih =>
    intro w cur o h
    rw [World.setCells, setsL]
    have := ih (o + 1) (h.set o v)
    rwa [Array.toList_setIfInBounds] at this
theorem gr_trans {a b c : World} {row : Option Nat} (h : a.grownBy b row) (k : b.grownBy c row) : a.grownBy c row :=
  ⟨k.os.trans h.os, k.tape.trans h.tape, k.output.trans h.output, Nat.le_trans h.size k.size, fun i hi hne => (k.block i (Nat.lt_of_lt_of_le hi h.size) hne).trans (h.block i hi hne)⟩
theorem gr_set (w : World) (b i : Nat) (u : Value) : w.grownBy (w.setCell ⟨b, i, none⟩ u) (some b) :=
  have hb : Below 0 w (w.setCell ⟨b, i, none⟩ u) := (Below.refl 0 w).setCell (Nat.zero_le _) u
  ⟨hb.os, hb.tape, hb.output, hb.size, fun k _ hne => heap_setCell_other w ⟨b, i, none⟩ k u (fun e => hne (by rw [e]))⟩
theorem gr_sets (b : Nat) (vs : List Value) : ∀ (w : World) (o : Nat), w.grownBy (w.setCells b o vs) (some b) := by
  induction vs with
  | nil => intro w o; exact ⟨rfl, rfl, rfl, Nat.le_refl _, fun _ _ _ => rfl⟩
  | cons v r ih => intro w o; rw [World.setCells]; exact gr_trans (gr_set w b o v) (ih _ _)
theorem gr_new {w w' : World} {g : Nat} (h : w.grownBy w' (some g)) (hg : w.heap.size ≤ g) (row : Option Nat) : w.grownBy w' row :=
  ⟨h.os, h.tape, h.output, h.size, fun k hk _ => h.block k hk (fun e => by cases e; omega)⟩

/-- What Insert leaves. -/
def InsPost (B : Nat) (T : TypeId) (w : World) (v : Value) (xs : List Value) (i : Nat) (x : Value) (w' : World) (u : Value) : Prop :=
  w'.ownsRow B T 1 u (xs.length + 1) (xs.take i ++ x :: xs.drop i) ∧ w.grownBy w' v.ownBlock ∧ (u.ownBlock = v.ownBlock ∨ ∃ g, u.ownBlock = some g ∧ w.heap.size ≤ g)

theorem ins_len (xs : List Value) (i : Nat) (x : Value) (h : i ≤ xs.length) : (xs.take i ++ x :: xs.drop i).length = xs.length + 1 := by simp; omega
/-- Room, inside. -/
theorem ins_shift {B b c : Nat} {T : TypeId} {w w' : World} {xs : List Value} {cur : Array Value} {i : Nat} {x : Value} (hb : B ≤ b) (hg : Blc w b T cur) (hc : cur.size = c) (hm : c ≤ maxLen) (ht : cur.toList.take xs.length = xs) (hi : i ≤ xs.length) (hroom : xs.length + 1 ≤ c)
    (hw : w' = (w.drew.setCells b (0 + (i + 1)) (xs.drop i)).setCells b (0 + i) [x]) : InsPost B T w (.slice (some ⟨b, 0, none⟩) xs.length c) xs i x w' (.slice (some ⟨b, 0, none⟩) (xs.length + 1) c) := by
  subst hw
  have hcl : cur.toList.length = c := by rw [Array.length_toList, hc]
  have hd : (xs.drop i).length = xs.length - i := List.length_drop
  refine ⟨⟨by rw [ins_len _ _ _ hi]; omega, .inr ⟨b, c, _, rfl, hb, Blc.sets [x] _ (Blc.sets (xs.drop i) (0 + (i + 1)) (show Blc w.drew b T cur from hg)), by omega, hm, ?_, ?_⟩⟩, ?_, .inl rfl⟩
  · simp only [List.size_toArray]
    rw [setsL_eq _ _ _ (by simp only [setsL_eq _ _ _ (show 0 + (i + 1) + (xs.drop i).length ≤ cur.toList.length by omega), List.length_append, List.length_take, List.length_drop, List.length_singleton]; omega), setsL_eq _ _ _ (by omega)]
    simp only [List.length_append, List.length_take, List.length_drop, List.length_singleton, Nat.zero_add]
    omega
  · have e1 : setsL cur.toList (0 + (i + 1)) (xs.drop i) = cur.toList.take (i + 1) ++ xs.drop i ++ cur.toList.drop (xs.length + 1) := by
      rw [setsL_eq _ _ _ (by omega), Nat.zero_add, show i + 1 + (xs.drop i).length = xs.length + 1 by omega]
    have e2 : cur.toList.take i = xs.take i := by rw [← ht, List.take_take, Nat.min_eq_left hi]
    rw [e1, setsL_eq _ _ _ (by simp only [List.length_append, List.length_take, List.length_drop, List.length_singleton]; omega)]
    simp only [Nat.zero_add, List.length_singleton, Nat.mul_one]
    have e3 : (cur.toList.take (i + 1) ++ xs.drop i ++ cur.toList.drop (xs.length + 1)).take i = xs.take i := by
      rw [List.append_assoc, List.take_append_of_le_length (by rw [List.length_take]; omega), List.take_take, Nat.min_eq_left (by omega), e2]
    have e4 : (cur.toList.take (i + 1) ++ xs.drop i ++ cur.toList.drop (xs.length + 1)).drop (i + 1) = xs.drop i ++ cur.toList.drop (xs.length + 1) := by
      rw [List.append_assoc, List.drop_append, List.length_take, Nat.min_eq_left (by omega), List.drop_eq_nil_of_le (by rw [List.length_take]; omega)]
      simp
    rw [e3, e4]
    have e5 : xs.take i ++ [x] ++ (xs.drop i ++ cur.toList.drop (xs.length + 1)) = (xs.take i ++ x :: xs.drop i) ++ cur.toList.drop (xs.length + 1) := by simp
    rw [e5, ← ins_len xs i x hi]
    exact List.take_left
  · exact gr_trans (gr_trans (b := w.drew) (show w.grownBy w.drew (some b) from ⟨rfl, rfl, rfl, Nat.le_refl _, fun _ _ _ => rfl⟩) (gr_sets b _ w.drew _)) (gr_sets b _ _ _)
/-- Room, at the end. -/
theorem ins_end {B b c : Nat} {T : TypeId} {w w' : World} {xs : List Value} {cur : Array Value} {x : Value} (hb : B ≤ b) (hg : Blc w b T cur) (hc : cur.size = c) (hm : c ≤ maxLen) (ht : cur.toList.take xs.length = xs) (hroom : xs.length + 1 ≤ c)
    (hw : w' = w.setCells b (0 + xs.length) [x]) : InsPost B T w (.slice (some ⟨b, 0, none⟩) xs.length c) xs xs.length x w' (.slice (some ⟨b, 0, none⟩) (xs.length + 1) c) := by
  subst hw
  have hcl : cur.toList.length = c := by rw [Array.length_toList, hc]
  refine ⟨⟨by rw [ins_len _ _ _ (Nat.le_refl _)]; omega, .inr ⟨b, c, _, rfl, hb, Blc.sets [x] _ hg, by omega, hm, ?_, ?_⟩⟩, gr_sets b _ _ _, .inl rfl⟩
  · simp only [List.size_toArray]
    rw [setsL_eq _ _ _ (by simp only [List.length_singleton]; omega)]
    simp only [List.length_append, List.length_take, List.length_drop, List.length_singleton, Nat.zero_add]
    omega
  · rw [setsL_eq _ _ _ (by simp only [List.length_singleton]; omega)]
    simp only [Nat.zero_add, List.length_singleton, Nat.mul_one]
    rw [ht, List.take_of_length_le (Nat.le_refl xs.length), List.drop_eq_nil_of_le (Nat.le_refl xs.length)]
    exact List.take_left' (by simp)
/-- No room, inside. -/
theorem ins_grow {B c' : Nat} {T : TypeId} {w w' : World} {xs : List Value} {v x z : Value} {i : Nat} (hB : B ≤ w.heap.size) (hi : i ≤ xs.length) (hm : c' ≤ maxLen) (hc : xs.length + 1 ≤ c') (hz : z.cells.size = 1)
    (hw : w' = (((w.alloc (.cells ((xs.take i).toArray ++ Builtin.zeroCells z.cells (xs.length + 1 - i) ++ Builtin.zeroCells z.cells (c' - (xs.length + 1))) T)).drew.setCells w.heap.size i [x]).drew).setCells w.heap.size (i + 1) (xs.drop i)) : InsPost B T w v xs i x w' (.slice (some ⟨w.heap.size, 0, none⟩) (xs.length + 1) c') := by
  subst hw
  generalize hZ1 : Builtin.zeroCells z.cells (xs.length + 1 - i) = Z1
  generalize hZ2 : Builtin.zeroCells z.cells (c' - (xs.length + 1)) = Z2
  have h1 : Z1.size = xs.length + 1 - i := by rw [← hZ1, size_zeroCells, hz]; omega
  have h2 : Z2.size = c' - (xs.length + 1) := by rw [← hZ2, size_zeroCells, hz]; omega
  have hd : (xs.drop i).length = xs.length - i := List.length_drop
  have ht : (xs.take i).length = i := by rw [List.length_take]; omega
  have hl1 : Z1.toList.length = xs.length + 1 - i := by rw [Array.length_toList, h1]
  have hl2 : Z2.toList.length = c' - (xs.length + 1) := by rw [Array.length_toList, h2]
  have hnew := Blc.new w T ((xs.take i).toArray ++ Z1 ++ Z2)
  have hset1 := Blc.sets [x] (w := (w.alloc (.cells ((xs.take i).toArray ++ Z1 ++ Z2) T)).drew) i (show Blc (w.alloc (.cells ((xs.take i).toArray ++ Z1 ++ Z2) T)).drew _ _ _ from hnew)
  have hset := Blc.sets (xs.drop i) (w := ((w.alloc (.cells ((xs.take i).toArray ++ Z1 ++ Z2) T)).drew.setCells w.heap.size i [x]).drew) (i + 1) (show Blc (World.drew _) _ _ _ from hset1)
  have eL : ((xs.take i).toArray ++ Z1 ++ Z2).toList = xs.take i ++ (Z1.toList ++ Z2.toList) := by simp
  have e1 : setsL ((xs.take i).toArray ++ Z1 ++ Z2).toList i [x] = xs.take i ++ x :: (Z1.toList ++ Z2.toList).drop 1 := by
    rw [eL, setsL_eq _ _ _ (by simp only [List.length_append, List.length_singleton]; omega), List.take_left' ht, List.length_singleton, List.drop_append, ht, List.drop_eq_nil_of_le (by omega), show i + 1 - i = 1 by omega]
    simp
  have e2 : setsL (xs.take i ++ x :: (Z1.toList ++ Z2.toList).drop 1) (i + 1) (xs.drop i) = (xs.take i ++ x :: xs.drop i) ++ Z2.toList := by
    rw [setsL_eq _ _ _ (by simp only [List.length_append, List.length_cons, List.length_drop]; omega)]
    have a1 : (xs.take i ++ x :: (Z1.toList ++ Z2.toList).drop 1).take (i + 1) = xs.take i ++ [x] := by
      rw [List.take_append, ht, List.take_of_length_le (by omega), show i + 1 - i = 1 by omega]; rfl
    have a2 : (xs.take i ++ x :: (Z1.toList ++ Z2.toList).drop 1).drop (i + 1 + (xs.drop i).length) = Z2.toList := by
      rw [List.drop_append, ht, List.drop_eq_nil_of_le (by omega), hd, show i + 1 + (xs.length - i) - i = (xs.length - i) + 1 by omega, List.drop_succ_cons, List.drop_drop, List.nil_append]
      exact List.drop_left' (by omega)
    rw [a1, a2]; simp
  refine ⟨⟨by rw [ins_len _ _ _ hi]; omega, .inr ⟨w.heap.size, c', _, rfl, hB, hset, by omega, hm, ?_, ?_⟩⟩, ?_, .inr ⟨_, rfl, Nat.le_refl _⟩⟩
  · rw [e1]
    simp only [List.size_toArray]
    rw [e2, List.length_append, ins_len _ _ _ hi]; omega
  · rw [e1]
    simp only
    rw [e2, ← ins_len xs i x hi, Nat.mul_one]
    exact List.take_left
  · refine gr_new (gr_trans ?_ (gr_sets _ _ _ _)) (Nat.le_refl _) _
    refine gr_trans (b := (w.alloc (.cells ((xs.take i).toArray ++ Z1 ++ Z2) T)).drew.setCells w.heap.size i [x]) (gr_trans (b := (w.alloc (.cells ((xs.take i).toArray ++ Z1 ++ Z2) T)).drew) ?_ (gr_sets _ _ _ _)) ⟨rfl, rfl, rfl, Nat.le_refl _, fun _ _ _ => rfl⟩
    exact ⟨rfl, rfl, rfl, by simp [World.drew], fun k hk _ => Below.heap_alloc w _ k hk⟩
/-- No room, at the end. -/
theorem ins_end_grow {B c' : Nat} {T : TypeId} {w w' : World} {xs : List Value} {v x z : Value} (hB : B ≤ w.heap.size) (hm : c' ≤ maxLen) (hc : xs.length + 1 ≤ c') (hz : z.cells.size = 1)
    (hw : w' = w.drew.alloc (.cells ((xs ++ [x]).toArray ++ Builtin.zeroCells z.cells (c' - (xs.length + 1))) T)) : InsPost B T w v xs xs.length x w' (.slice (some ⟨w.heap.size, 0, none⟩) (xs.length + 1) c') := by
  subst hw
  generalize hZ2 : Builtin.zeroCells z.cells (c' - (xs.length + 1)) = Z2
  have h2 : Z2.size = c' - (xs.length + 1) := by rw [← hZ2, size_zeroCells, hz]; omega
  refine ⟨⟨by rw [ins_len _ _ _ (Nat.le_refl _)]; omega, .inr ⟨w.heap.size, c', _, rfl, hB, heap_alloc_new w.drew _, by omega, hm, ?_, ?_⟩⟩, ⟨rfl, rfl, rfl, by simp, fun k hk _ => Below.heap_alloc w.drew _ k hk⟩, .inr ⟨_, rfl, Nat.le_refl _⟩⟩
  · simp only [Array.size_append, List.size_toArray, List.length_append, List.length_singleton, h2]; omega
  · rw [List.take_of_length_le (Nat.le_refl xs.length), List.drop_eq_nil_of_le (Nat.le_refl xs.length)]
    simp only [Array.toList_append, Nat.mul_one]
    exact List.take_left' (by simp)
end Go.Proofs.YtaophiknldkfdaaGreatDoor
/- slices.Insert of one element into a row that the call owns: the contracts. -/
namespace Go.Proofs.YtaophiknldkfdaaGreatDoor
open Go.RowKit


set_option maxHeartbeats 400000 in
theorem insS_own (B : Nat) (w : World) (v : Value) (xs : List Value) (i vb vc : Nat) (x : Value) (Tv : TypeId) (h : w.ownsRow B 9 1 v xs.length xs) (hB : B ≤ w.heap.size) (hl : xs.length ≤ 1000000) (hi : i ≤ xs.length) (hone : ∀ u ∈ xs, u.oneCell' = true) (hx1 : x.oneCell' = true)
    (hx : Blc w vb Tv #[x]) (hne : v.ownBlock ≠ some vb) :
    Calls Tryz.prog 46 #[v, .int .i64 i, .slice (some ⟨vb, 0, none⟩) 1 vc] w fun e w' => ∃ u, e = .returned u ∧ InsPost B 9 w v xs i x w' u := by
  have hvs : ∀ (j : Nat) (u : Value), [x][j]? = some u → w.cell? ⟨vb, 0 + j, none⟩ = some u := by
    intro j u hj
    have := hx.cell (0 + j)
    rw [this, Nat.zero_add]; simpa using hj
  have h1v : ∀ u ∈ [x], u.oneCell' = true := fun u hu => by rw [List.mem_singleton] at hu; rw [hu]; exact hx1
  rcases h.2 with ⟨rfl, h0⟩ | ⟨g, c, cur, rfl, hb, hg, hc, hm, hs, ht⟩
  · obtain rfl : xs = [] := List.length_eq_zero_iff.1 h0
    obtain rfl : i = 0 := by simpa using hi
    refine (Any2.slices_Insert_string_end_grow laysInsS none 0 0 vb 0 1 vc [] [x] w (by omega) (by omega) (by omega) (by omega) rfl rfl (fun _ => rfl) (fun a ha => by cases ha) hvs h1v).mono ?_
    rintro e w' ⟨rfl, hw⟩
    exact ⟨_, rfl, ins_end_grow (xs := []) (z := (Value.string ⟨#[]⟩)) hB (grownCap_le_maxLen w _ _ _ (by unfold maxLen; omega)) (grownCap_ge w _ _ _) rfl hw⟩
  · have hgb : Blc w g 9 cur := hg
    rw [Nat.mul_one] at hs ht
    have hgv : vb ≠ g := fun e => hne (by simp [Value.ownBlock, e])
    have hcs : ∀ (j : Nat) (u : Value), xs[j]? = some u → w.cell? ⟨g, 0 + j, none⟩ = some u := by
      intro j u hj
      have hjl : j < xs.length := (List.getElem?_eq_some_iff.1 hj).1
      rw [hgb.cell (0 + j), Nat.zero_add, ← Array.getElem?_toList]
      have hj2 : (cur.toList.take xs.length)[j]? = some u := by rw [ht]; exact hj
      rw [List.getElem?_take, if_pos hjl] at hj2
      exact hj2
    have hsp : ∀ j, j < c → (w.cell? ⟨g, 0 + j, none⟩).isSome = true := fun j hj => by
      rw [hgb.cell (0 + j), Nat.zero_add, Array.getElem?_eq_getElem (by omega)]; rfl
    have hc63 : c ≤ 9223372036854775807 := by unfold maxLen at hm; omega
    by_cases hroom : xs.length + 1 ≤ c
    · rcases Nat.lt_or_eq_of_le hi with hlt | rfl
      · have hsa : w.shape? vb = some (Tv, 1) := by unfold World.shape?; unfold Blc at hx; rw [hx]; rfl
        have hsb : w.shape? g = some (9, cur.size) := by unfold World.shape?; rw [hg]
        refine (Any2.slices_Insert_string_shift laysInsS g 0 xs.length c i vb 0 1 vc xs [x] w hlt (by omega) hroom hc63 hgv rfl rfl hcs (fun j hj => hsp j (by omega)) (fun j _ => hgb.free _) hvs hone h1v Tv 9 1 cur.size hsa hsb (by omega) (hx.free 0) (hx.free 1)).mono ?_
        rintro e w' ⟨rfl, hw⟩
        exact ⟨_, rfl, ins_shift hb hgb hs hm ht hi hroom hw⟩
      · refine (Any2.slices_Insert_string_end_room laysInsS g 0 xs.length c vb 0 1 vc [x] w (by omega) hroom hc63 rfl (fun j hj => by have := hsp (xs.length + j) (by omega); rwa [← Nat.add_assoc] at this) (fun j _ => hgb.free _) hvs h1v).mono ?_
        rintro e w' ⟨rfl, hw⟩
        exact ⟨_, rfl, ins_end hb hgb hs hm ht hroom hw⟩
    · rcases Nat.lt_or_eq_of_le hi with hlt | rfl
      · refine (Any2.slices_Insert_string_grow laysInsS g 0 xs.length c i vb 0 1 vc xs [x] w hlt (by omega) hc (by omega) (by omega) rfl rfl hcs hvs hone h1v).mono ?_
        rintro e w' ⟨rfl, hw⟩
        exact ⟨_, rfl, ins_grow (z := (Value.string ⟨#[]⟩)) hB hi (grownCap_le_maxLen w _ _ _ (by unfold maxLen; omega)) (grownCap_ge w _ _ _) rfl hw⟩
      · refine (Any2.slices_Insert_string_end_grow laysInsS (some ⟨g, 0, none⟩) xs.length c vb 0 1 vc xs [x] w (by omega) hc (by omega) (by omega) rfl rfl (fun e => by cases e) (fun a ha j u hj => by cases ha; rw [add_none]; exact hcs j u hj) hvs h1v).mono ?_
        rintro e w' ⟨rfl, hw⟩
        exact ⟨_, rfl, ins_end_grow (z := (Value.string ⟨#[]⟩)) hB (grownCap_le_maxLen w _ _ _ (by unfold maxLen; omega)) (grownCap_ge w _ _ _) rfl hw⟩

set_option maxHeartbeats 400000 in
theorem insI_own (B : Nat) (w : World) (v : Value) (xs : List Value) (i vb vc : Nat) (x : Value) (Tv : TypeId) (h : w.ownsRow B 3 1 v xs.length xs) (hB : B ≤ w.heap.size) (hl : xs.length ≤ 1000000) (hi : i ≤ xs.length) (hone : ∀ u ∈ xs, u.oneCell' = true) (hx1 : x.oneCell' = true)
    (hx : Blc w vb Tv #[x]) (hne : v.ownBlock ≠ some vb) :
    Calls Tryz.prog 47 #[v, .int .i64 i, .slice (some ⟨vb, 0, none⟩) 1 vc] w fun e w' => ∃ u, e = .returned u ∧ InsPost B 3 w v xs i x w' u := by
  have hvs : ∀ (j : Nat) (u : Value), [x][j]? = some u → w.cell? ⟨vb, 0 + j, none⟩ = some u := by
    intro j u hj
    have := hx.cell (0 + j)
    rw [this, Nat.zero_add]; simpa using hj
  have h1v : ∀ u ∈ [x], u.oneCell' = true := fun u hu => by rw [List.mem_singleton] at hu; rw [hu]; exact hx1
  rcases h.2 with ⟨rfl, h0⟩ | ⟨g, c, cur, rfl, hb, hg, hc, hm, hs, ht⟩
  · obtain rfl : xs = [] := List.length_eq_zero_iff.1 h0
    obtain rfl : i = 0 := by simpa using hi
    refine (Any2.slices_Insert_int_end_grow laysInsI none 0 0 vb 0 1 vc [] [x] w (by omega) (by omega) (by omega) (by omega) rfl rfl (fun _ => rfl) (fun a ha => by cases ha) hvs h1v).mono ?_
    rintro e w' ⟨rfl, hw⟩
    exact ⟨_, rfl, ins_end_grow (xs := []) (z := (Value.int .i64 0)) hB (grownCap_le_maxLen w _ _ _ (by unfold maxLen; omega)) (grownCap_ge w _ _ _) rfl hw⟩
  · have hgb : Blc w g 3 cur := hg
    rw [Nat.mul_one] at hs ht
    have hgv : vb ≠ g := fun e => hne (by simp [Value.ownBlock, e])
    have hcs : ∀ (j : Nat) (u : Value), xs[j]? = some u → w.cell? ⟨g, 0 + j, none⟩ = some u := by
      intro j u hj
      have hjl : j < xs.length := (List.getElem?_eq_some_iff.1 hj).1
      rw [hgb.cell (0 + j), Nat.zero_add, ← Array.getElem?_toList]
      have hj2 : (cur.toList.take xs.length)[j]? = some u := by rw [ht]; exact hj
      rw [List.getElem?_take, if_pos hjl] at hj2
      exact hj2
    have hsp : ∀ j, j < c → (w.cell? ⟨g, 0 + j, none⟩).isSome = true := fun j hj => by
      rw [hgb.cell (0 + j), Nat.zero_add, Array.getElem?_eq_getElem (by omega)]; rfl
    have hc63 : c ≤ 9223372036854775807 := by unfold maxLen at hm; omega
    by_cases hroom : xs.length + 1 ≤ c
    · rcases Nat.lt_or_eq_of_le hi with hlt | rfl
      · have hsa : w.shape? vb = some (Tv, 1) := by unfold World.shape?; unfold Blc at hx; rw [hx]; rfl
        have hsb : w.shape? g = some (3, cur.size) := by unfold World.shape?; rw [hg]
        refine (Any2.slices_Insert_int_shift laysInsI g 0 xs.length c i vb 0 1 vc xs [x] w hlt (by omega) hroom hc63 hgv rfl rfl hcs (fun j hj => hsp j (by omega)) (fun j _ => hgb.free _) hvs hone h1v Tv 3 1 cur.size hsa hsb (by omega) (hx.free 0) (hx.free 1)).mono ?_
        rintro e w' ⟨rfl, hw⟩
        exact ⟨_, rfl, ins_shift hb hgb hs hm ht hi hroom hw⟩
      · refine (Any2.slices_Insert_int_end_room laysInsI g 0 xs.length c vb 0 1 vc [x] w (by omega) hroom hc63 rfl (fun j hj => by have := hsp (xs.length + j) (by omega); rwa [← Nat.add_assoc] at this) (fun j _ => hgb.free _) hvs h1v).mono ?_
        rintro e w' ⟨rfl, hw⟩
        exact ⟨_, rfl, ins_end hb hgb hs hm ht hroom hw⟩
    · rcases Nat.lt_or_eq_of_le hi with hlt | rfl
      · refine (Any2.slices_Insert_int_grow laysInsI g 0 xs.length c i vb 0 1 vc xs [x] w hlt (by omega) hc (by omega) (by omega) rfl rfl hcs hvs hone h1v).mono ?_
        rintro e w' ⟨rfl, hw⟩
        exact ⟨_, rfl, ins_grow (z := (Value.int .i64 0)) hB hi (grownCap_le_maxLen w _ _ _ (by unfold maxLen; omega)) (grownCap_ge w _ _ _) rfl hw⟩
      · refine (Any2.slices_Insert_int_end_grow laysInsI (some ⟨g, 0, none⟩) xs.length c vb 0 1 vc xs [x] w (by omega) hc (by omega) (by omega) rfl rfl (fun e => by cases e) (fun a ha j u hj => by cases ha; rw [add_none]; exact hcs j u hj) hvs h1v).mono ?_
        rintro e w' ⟨rfl, hw⟩
        exact ⟨_, rfl, ins_end_grow (z := (Value.int .i64 0)) hB (grownCap_le_maxLen w _ _ _ (by unfold maxLen; omega)) (grownCap_ge w _ _ _) rfl hw⟩
end Go.Proofs.YtaophiknldkfdaaGreatDoor
/- slices.Delete of one element of a row that the call owns. -/
namespace Go.Proofs.YtaophiknldkfdaaGreatDoor
open Go.RowKit Go.Sort

def DelPost (B : Nat) (T : TypeId) (w : World) (v : Value) (xs : List Value) (m : Nat) (w' : World) (u : Value) : Prop :=
  w'.ownsRow B T 1 u (xs.length - 1) (xs.take m ++ xs.drop (m + 1)) ∧ w.grownBy w' v.ownBlock ∧ u.ownBlock = v.ownBlock ∧ ∃ p c, u = .slice p (xs.length - 1) c
theorem del_len (xs : List Value) (m : Nat) (h : m < xs.length) : (xs.take m ++ xs.drop (m + 1)).length = xs.length - 1 := by simp; omega
theorem del_post {B b c q : Nat} {T : TypeId} {w w' : World} {xs : List Value} {cur : Array Value} {m : Nat} {z : Value} (hb : B ≤ b) (hg : Blc w b T cur) (hc : cur.size = c) (hm : c ≤ maxLen) (hn : xs.length ≤ c) (hi : m < xs.length)
    (hw : w' = (w.drewN q).setCells b 0 (xs.take m ++ xs.drop (m + 1) ++ [z])) : DelPost B T w (.slice (some ⟨b, 0, none⟩) xs.length c) xs m w' (.slice (some ⟨b, 0, none⟩) (xs.length - 1) c) := by
  subst hw
  have hcl : cur.toList.length = c := by rw [Array.length_toList, hc]
  have hd := del_len xs m hi
  have hl : (xs.take m ++ xs.drop (m + 1) ++ [z]).length = xs.length := by rw [List.length_append, hd, List.length_singleton]; omega
  have hset := Blc.sets (xs.take m ++ xs.drop (m + 1) ++ [z]) (w := w.drewN q) 0 (show Blc (w.drewN q) b T cur from hg)
  have e1 : setsL cur.toList 0 (xs.take m ++ xs.drop (m + 1) ++ [z]) = (xs.take m ++ xs.drop (m + 1)) ++ ([z] ++ cur.toList.drop xs.length) := by
    rw [setsL_eq _ _ _ (by omega), hl]; simp
  refine ⟨⟨by rw [hd, Nat.mul_one], .inr ⟨b, c, _, rfl, hb, hset, by omega, hm, ?_, ?_⟩⟩, ?_, rfl, _, _, rfl⟩
  · simp only [List.size_toArray]
    rw [e1]
    simp only [List.length_append, List.length_singleton, List.length_drop] at hd ⊢
    omega
  · simp only
    rw [e1, Nat.mul_one, ← hd]
    exact List.take_left
  · exact gr_trans (b := w.drewN q) (show w.grownBy (w.drewN q) (some b) from ⟨rfl, rfl, rfl, Nat.le_refl _, fun _ _ _ => rfl⟩) (gr_sets b _ _ _)

theorem delI_own (B : Nat) (w : World) (v : Value) (l : List Int) (m : Nat) (h : OwnI B w v l) (hm : m < l.length) :
    Calls Tryz.prog 53 #[v, .int .i64 m, .int .i64 ((m + 1 : Nat) : Int)] w fun e w' => ∃ u, e = .returned u ∧ DelPost B 3 w v (l.map (Value.int .i64)) m w' u := by
  rcases h.2 with ⟨-, h0⟩ | ⟨g, c, cur, rfl, hb, hg, hc, hcm, hs, ht⟩
  · omega
  · rw [Nat.mul_one] at hs
    have hcell : ∀ j, j < l.length → w.cell? ⟨g, 0 + j, none⟩ = some (.int .i64 (l.getD j 0)) := fun j hj => by
      have := World.ownsRow.cellAt h j (by omega)
      rw [Nat.zero_add, this]; simp [List.getD, hj]
    refine (Tryz.slices_Delete_int_cells g 0 l.length c m (m + 1) l w (Nat.le_refl _) hc (by unfold maxLen at hcm; omega) (Nat.le_succ _) hm hcell (fun j _ => by rw [Nat.zero_add]; exact World.ownsRow.frozenAt h j)).mono ?_
    rintro e w' ⟨rfl, q, hw⟩
    refine ⟨_, rfl, ?_⟩
    have e0 : l.length - (m + 1 - m) = (l.map (Value.int .i64)).length - 1 := by rw [List.length_map]; omega
    rw [e0]
    have := del_post (q := q) (w' := w') (xs := l.map (Value.int .i64)) (m := m) (z := .int .i64 0) hb hg hs hcm (by rw [List.length_map]; exact hc) (by rw [List.length_map]; exact hm) (by
      rw [hw, List.take_of_length_le (Nat.le_refl l.length), show m + 1 - m = 1 by omega]
      simp [List.map_take, List.map_drop])
    rw [List.length_map] at this ⊢
    exact this

theorem strs_eq (S : List ByteArray) : (Lib.strsOf (fun i => S.getD i E0) S.length) = S.map (fun s => s.data.toList) := by
  unfold Lib.strsOf
  apply List.ext_getElem
  · simp
  · intro i h1 h2
    simp at h1
    simp [List.getD, h1]
theorem enc_data (s : ByteArray) : encStr s.data.toList = Value.string s := by cases s; simp [encStr]
theorem enc_map (S : List ByteArray) : (S.map (fun s => s.data.toList)).map encStr = S.map Value.string := by
  rw [List.map_map]
  exact List.map_congr_left (fun s _ => enc_data s)
theorem delS_own (B : Nat) (w : World) (v : Value) (l : List ByteArray) (m : Nat) (h : OwnS B w v l) (hm : m < l.length) :
    Calls Tryz.prog 52 #[v, .int .i64 m, .int .i64 ((m + 1 : Nat) : Int)] w fun e w' => ∃ u, e = .returned u ∧ DelPost B 9 w v (l.map Value.string) m w' u := by
  rcases h.2 with ⟨-, h0⟩ | ⟨g, c, cur, rfl, hb, hg, hc, hcm, hs, ht⟩
  · omega
  · rw [Nat.mul_one] at hs
    have hcell : ∀ j, j < l.length → w.cell? ⟨g, 0 + j, none⟩ = some (.string (l.getD j E0)) := fun j hj => by
      have := World.ownsRow.cellAt h j (by omega)
      rw [Nat.zero_add, this]; simp [List.getD, hj]
    refine (Tryz.slices_Delete_string_cells g 0 l.length c m (m + 1) (fun i => l.getD i E0) w hc (by unfold maxLen at hcm; omega) (Nat.le_succ _) hm hcell (fun j _ => by rw [Nat.zero_add]; exact World.ownsRow.frozenAt h j)).mono ?_
    rintro e w' ⟨rfl, q, hw⟩
    refine ⟨_, rfl, ?_⟩
    have e0 : l.length - (m + 1 - m) = (l.map Value.string).length - 1 := by rw [List.length_map]; omega
    rw [e0]
    have := del_post (q := q) (w' := w') (xs := l.map Value.string) (m := m) (z := encStr []) hb hg hs hcm (by rw [List.length_map]; exact hc) (by rw [List.length_map]; exact hm) (by
      rw [hw, strs_eq, show m + 1 - m = 1 by omega, ← List.map_take, ← List.map_drop, List.map_append, List.map_append, enc_map, enc_map, List.map_take, List.map_drop]
      rfl)
    rw [List.length_map] at this ⊢
    exact this
end Go.Proofs.YtaophiknldkfdaaGreatDoor
