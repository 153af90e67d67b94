/- What PageStays keeps, round by round. No condition. -/
import Derived.Test.YtcbablighgooeaaPageH
namespace Go.Proofs.Ytcbablighgooeaa
open Go.RowKit

theorem Blc.mre {X : World} {b : Nat} {T : TypeId} {cs : Array Value} (h : Blc X b T cs) (n : Nat) (es : Array Obj) : Blc (more X n es) b T cs := (more_block X n es b h.lt).trans h
theorem Stays.mores {B : Nat} {X Y : World} {n m : Nat} {es : Array Obj} (h : Stays B X Y) (hs : Y.heap.size = X.heap.size) : Stays B (more X n es) (more Y m es) := by
  refine ⟨by simp; omega, fun k hk hk2 => ?_⟩
  simp only [more]
  by_cases hx : k < X.heap.size
  · rw [Array.getElem?_append_left hx, Array.getElem?_append_left (by omega)]
    exact h.2 k hk hx
  · rw [Array.getElem?_append_right (by omega), Array.getElem?_append_right (by omega), hs]
theorem Stays.refl (B : Nat) (w : World) : Stays B w w := ⟨Nat.le_refl _, fun _ _ _ => rfl⟩

def strCells (f : Nat → ByteArray) : Array Value := #[.string (f 0), .string (f 1), .string (f 2), .string (f 3), .string (f 4), .string (f 5), .string (f 6), .string (f 7), .string (f 8), .string (f 9), .string (f 10), .string (f 11), .string (f 12), .string (f 13), .string (f 14), .string (f 15)]
def boolCells (f : Nat → Bool) : Array Value := #[.bool (f 0), .bool (f 1), .bool (f 2), .bool (f 3), .bool (f 4), .bool (f 5), .bool (f 6), .bool (f 7), .bool (f 8), .bool (f 9), .bool (f 10), .bool (f 11), .bool (f 12), .bool (f 13), .bool (f 14), .bool (f 15)]
def upd {α : Type} (f : Nat → α) (k : Nat) (x : α) : Nat → α := fun i => if i = k then x else f i
theorem sixteen {k : Nat} (h : k < 16) : k = 0 ∨ k = 1 ∨ k = 2 ∨ k = 3 ∨ k = 4 ∨ k = 5 ∨ k = 6 ∨ k = 7 ∨ k = 8 ∨ k = 9 ∨ k = 10 ∨ k = 11 ∨ k = 12 ∨ k = 13 ∨ k = 14 ∨ k = 15 := by omega
theorem strCells_at (f : Nat → ByteArray) (k : Nat) (h : k < 16) : (strCells f)[k]? = some (.string (f k)) := by
  rcases sixteen h with rfl | rfl | rfl | rfl | rfl | rfl | rfl | rfl | rfl | rfl | rfl | rfl | rfl | rfl | rfl | rfl <;> rfl
theorem boolCells_at (f : Nat → Bool) (k : Nat) (h : k < 16) : (boolCells f)[k]? = some (.bool (f k)) := by
  rcases sixteen h with rfl | rfl | rfl | rfl | rfl | rfl | rfl | rfl | rfl | rfl | rfl | rfl | rfl | rfl | rfl | rfl <;> rfl
theorem strCells_set (f : Nat → ByteArray) (k : Nat) (h : k < 16) (s : ByteArray) : (strCells f).setIfInBounds k (.string s) = strCells (upd f k s) := by
  rcases sixteen h with rfl | rfl | rfl | rfl | rfl | rfl | rfl | rfl | rfl | rfl | rfl | rfl | rfl | rfl | rfl | rfl <;> rfl
theorem boolCells_set (f : Nat → Bool) (k : Nat) (h : k < 16) (s : Bool) : (boolCells f).setIfInBounds k (.bool s) = boolCells (upd f k s) := by
  rcases sixteen h with rfl | rfl | rfl | rfl | rfl | rfl | rfl | rfl | rfl | rfl | rfl | rfl | rfl | rfl | rfl | rfl <;> rfl

/-- The law's variables: its argument's box, the page x, the texts, who is there; and that they agree. -/
structure St (w wr : World) (bx bt bb : Nat) (box : Array Value) (v u : Value) (S : List ByteArray) (F : List Int) (tx : Nat → ByteArray) (th : Nat → Bool) : Prop where
  below : Below w.heap.size w wr
  ord : w.heap.size < bx ∧ bx < bt ∧ bt < bb
  blk0 : Blc wr w.heap.size 28 box
  blkx : Blc wr bx 25 #[v, u]
  blkt : Blc wr bt 9 (strCells tx)
  blkb : Blc wr bb 4 (boolCells th)
  page : PageIn (bb + 1) wr v u S F
  ok : PgOk S F
structure Agree (S : List ByteArray) (F : List Int) (tx : Nat → ByteArray) (th : Nat → Bool) : Prop where
  inv : ∀ m, m < 16 → th m = recB S F m
  txt : ∀ m, m < 16 → th m = true → tx m = S.getD m E0

section
variable {w wr : World} {bx bt bb : Nat} {box : Array Value} {v u : Value} {S : List ByteArray} {F : List Int} {tx : Nat → ByteArray} {th : Nat → Bool}
theorem St.lt (h : St w wr bx bt bb box v u S F tx th) : bb < wr.heap.size := h.blkb.lt
theorem St.on (h : St w wr bx bt bb box v u S F tx th) {w' : World} (hb : Below wr.heap.size wr w') : St w w' bx bt bb box v u S F tx th :=
  ⟨nw_trans h.below hb, h.ord, h.blk0.below hb, h.blkx.below hb, h.blkt.below hb, h.blkb.below hb, h.page.below hb, h.ok⟩
/-- A new page, made behind, is laid into x. -/
theorem St.lay (h : St w wr bx bt bb box v u S F tx th) {n : Nat} {es : Array Obj} {v' u' : Value} {S' : List ByteArray} {F' : List Int} (hp : PageIn (bb + 1) (more wr n es) v' u' S' F') (ho : PgOk S' F') :
    St w (more ((wr.setCell ⟨bx, 0, none⟩ v').setCell ⟨bx, 1, none⟩ u') n es) bx bt bb box v' u' S' F' tx th := by
  obtain ⟨o1, o2, o3⟩ := h.ord
  have hsz : bx < wr.heap.size := h.blkx.lt
  refine ⟨?_, h.ord, ?_, ?_, ?_, ?_, ?_, ho⟩
  · exact nw_more ((h.below.setCell (Nat.le_of_lt o1) _).setCell (Nat.le_of_lt o1) _) _ _
  · exact ((h.blk0.far (a := ⟨bx, 0, none⟩) (by simp; omega) _).far (a := ⟨bx, 1, none⟩) (by simp; omega) _).mre _ _
  · have h1 := ((h.blkx.set 0 v').set 1 u').mre n es
    simpa using h1
  · exact ((h.blkt.far (a := ⟨bx, 0, none⟩) (by simp; omega) _).far (a := ⟨bx, 1, none⟩) (by simp; omega) _).mre _ _
  · exact ((h.blkb.far (a := ⟨bx, 0, none⟩) (by simp; omega) _).far (a := ⟨bx, 1, none⟩) (by simp; omega) _).mre _ _
  · exact hp.stays (Stays.mores ((Stays.set (by simp; omega) _).trans (Stays.set (by simp; omega) _)) (by simp))
theorem St.there (h : St w wr bx bt bb box v u S F tx th) (k : Nat) (hk : k < 16) (b : Bool) : St w (wr.setCell ⟨bb, k, none⟩ (.bool b)) bx bt bb box v u S F tx (upd th k b) := by
  obtain ⟨o1, o2, o3⟩ := h.ord
  refine ⟨h.below.setCell (by simp; omega) _, h.ord, h.blk0.far (by simp; omega) _, h.blkx.far (by simp; omega) _, h.blkt.far (by simp; omega) _, ?_, h.page.stays (Stays.set (by simp) _), h.ok⟩
  have h1 := h.blkb.set k (.bool b)
  rw [boolCells_set _ _ hk] at h1
  exact h1
theorem St.text (h : St w wr bx bt bb box v u S F tx th) (k : Nat) (hk : k < 16) (s : ByteArray) : St w (wr.setCell ⟨bt, k, none⟩ (.string s)) bx bt bb box v u S F (upd tx k s) th := by
  obtain ⟨o1, o2, o3⟩ := h.ord
  refine ⟨h.below.setCell (by simp; omega) _, h.ord, h.blk0.far (by simp; omega) _, h.blkx.far (by simp; omega) _, ?_, h.blkb.far (by simp; omega) _, h.page.stays (Stays.set (by simp; omega) _), h.ok⟩
  have h1 := h.blkt.set k (.string s)
  rw [strCells_set _ _ hk] at h1
  exact h1
end
theorem Agree.start : Agree [] [] (fun _ => E0) (fun _ => false) := ⟨fun m hm => by rw [eq_comm, ← Bool.not_eq_true, rec_iff]; simp, fun m hm h => by cases h⟩
theorem Agree.cut {S S' : List ByteArray} {F F' : List Int} {tx : Nat → ByteArray} {th : Nat → Bool} (h : Agree S F tx th) {n : Nat} (hn : n < 16) (hr : ∀ m : Int, recB S' F' m = (recB S F m && !decide (m = n))) (ht : ∀ m : Nat, recB S' F' m = true → S'.getD m E0 = S.getD m E0) : Agree S' F' tx (upd th n false) := by
  have key : ∀ m, m < 16 → upd th n false m = recB S' F' m := fun m hm => by
    rw [hr m]
    unfold upd
    by_cases e : m = n
    · subst e; simp
    · rw [if_neg e, h.inv m hm]; simp; omega
  refine ⟨key, fun m hm hth => ?_⟩
  rw [ht m (by rw [← key m hm]; exact hth)]
  have hth2 : th m = true := by
    unfold upd at hth
    split at hth
    · cases hth
    · exact hth
  exact h.txt m hm hth2
theorem Agree.add {S : List ByteArray} {F : List Int} {tx : Nat → ByteArray} {th : Nat → Bool} {s : ByteArray} (h : Agree S F tx th) (ho : PgOk S F) (hf : fitsB (addS S F s) = true) : Agree (addS S F s) F.tail (upd tx (slotN S F) s) (upd th (slotN S F) true) ∧ slotN S F < 16 ∧ th (slotN S F) = false := by
  obtain ⟨-, h1, h2, h3, h4⟩ := add_ok ho hf
  have key : ∀ m, m < 16 → upd th (slotN S F) true m = recB (addS S F s) F.tail m := fun m hm => by
    rw [h1 m]
    unfold upd
    by_cases e : m = slotN S F
    · subst e; simp
    · rw [if_neg e, h.inv m hm]; simp; omega
  refine ⟨⟨key, fun m hm hth => ?_⟩, h3, by rw [h.inv _ h3]; exact h2⟩
  rw [h4 m]
  unfold upd at hth ⊢
  split
  · rfl
  · rename_i e
    rw [if_neg e] at hth
    exact h.txt m hm hth

def withinV (i : Int) (n : Nat) : Nat := ((IntKind.u64.wrap i) % (n : Int)).toNat
theorem withinV_lt (i : Int) {n : Nat} (hn : 0 < n) : withinV i n < n := by
  unfold withinV
  have h2 : 0 ≤ (IntKind.u64.wrap i) % (n : Int) := Int.emod_nonneg _ (by omega)
  have h3 : (IntKind.u64.wrap i) % (n : Int) < n := Int.emod_lt_of_pos _ (by omega)
  omega
theorem within_fun (i : Int) (n : Nat) (w : World) (hn : 0 < n) (hn2 : n < 1000) :
    Calls Try.prog 5 #[.int .i64 i, .int .i64 n] w fun e w' => e = .returned (.int .i64 (withinV i n)) ∧ w = w' := by
  have HW : Hid (((withinV i n : Nat) : Int) = wrap64 ((IntKind.u64.wrap i).tmod n)) := Lib.hid (by
    have h0 : (0 : Int) ≤ IntKind.u64.wrap i := by rw [IntKind.wrap_u64]; omega
    have h1 : (IntKind.u64.wrap i).tmod n = (IntKind.u64.wrap i) % n := Int.tmod_eq_emod_of_nonneg h0
    have h2 : 0 ≤ (IntKind.u64.wrap i) % (n : Int) := Int.emod_nonneg _ (by omega)
    have h3 : (IntKind.u64.wrap i) % (n : Int) < n := Int.emod_lt_of_pos _ (by omega)
    rw [h1]
    unfold withinV
    generalize (IntKind.u64.wrap i) % (n : Int) = q at h2 h3
    rw [IntWalk.wrap64_in _ (by omega)]; omega)
  go_enter Try.func5, Try.ntmps5
  go_wp2
  go_ret
  exact ⟨ret_int HW.out.symm, rfl⟩
theorem act_at {w : World} {pa : Option Addr} {N ca : Nat} {A : Nat → Ac} (h : ActsBig w (.slice pa N ca) N A) {k : Nat} (hk : k < N) :
    ∃ b off, pa = some ⟨b, off, none⟩ ∧ Lt b w.heap.size ∧ w.cell? ⟨b, off + k * 3, none⟩ = some (.int .i64 (A k).d) ∧ w.cell? ⟨b, off + k * 3 + 1, none⟩ = some (.int .i64 (A k).n) ∧ w.cell? ⟨b, off + k * 3 + 2, none⟩ = some (.string (A k).s) ∧ (A k).s.size ≤ 140737488355328 := by
  obtain ⟨p, cap, e, -, h4⟩ := h
  obtain ⟨b, off, e2, h5⟩ := h4 k hk
  simp only [Value.slice.injEq] at e
  exact ⟨b, off, e.1.trans e2, h5⟩
end Go.Proofs.Ytcbablighgooeaa
