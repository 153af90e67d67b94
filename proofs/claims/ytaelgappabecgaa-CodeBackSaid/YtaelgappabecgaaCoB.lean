/- Contracts: a source's functions. No condition. -/
import Derived.Test.YtaelgappabecgaaCoMem
import Derived.Test.YtaelgappabecgaaCoPlain
import Derived.WalkKit
import Derived.WalkSpells
import Derived.WalkLawsBesides
import Derived.Test.YtaelgappabecgaaShelf
import Derived.Lib.ConvBytes
import Derived.Laws.BitsLemmas
import Derived.Deep.Strs
namespace Go.Proofs.Ytaelgappabecgaa
open Go.RowKit

theorem ext_take (s : ByteArray) (n : Nat) : s.extract 0 n = toB (s.data.toList.take n) := by
  apply ByteArray.ext
  apply Array.toList_inj.1
  rw [ByteArray.data_extract, Array.toList_extract]
  simp [toB]
theorem ext_drop (s : ByteArray) (n : Nat) : s.extract n s.size = toB (s.data.toList.drop n) := by
  apply ByteArray.ext
  apply Array.toList_inj.1
  rw [ByteArray.data_extract, Array.toList_extract]
  have e : s.size - n = (s.data.toList.drop n).length := by rw [List.length_drop, Array.length_toList]; rfl
  show (s.data.toList.drop n).take (s.size - n) = s.data.toList.drop n
  rw [e, List.take_length]
theorem take_all (s : ByteArray) (n : Nat) (h : s.size ≤ n) : s.data.toList.take n = s.data.toList.take s.size ∧ s.data.toList.drop n = s.data.toList.drop s.size := by
  have hl : s.data.toList.length = s.size := Array.length_toList
  exact ⟨by rw [List.take_of_length_le (by omega), List.take_of_length_le (by omega)], by rw [List.drop_eq_nil_of_le (by omega), List.drop_eq_nil_of_le (by omega)]⟩
theorem all_take (s : ByteArray) : s = toB (s.data.toList.take s.size) := by
  have hl : s.data.toList.length = s.size := Array.length_toList
  rw [← hl, List.take_length]; rfl
theorem all_drop (s : ByteArray) : toB (s.data.toList.drop s.size) = ByteArray.empty := by
  have hl : s.data.toList.length = s.size := Array.length_toList
  rw [← hl, List.drop_length]; rfl
/-- A text's bytes as a new row. -/
theorem conv_sb (X : World) (L : List UInt8) : ∃ n es cap, (convert 9 41 (.string (toB L))).run Try.prog X = .ok (.slice (some ⟨X.heap.size, 0, none⟩) L.length cap) (more X n es) ∧ (∀ j, j < L.length → (more X n es).cell? ⟨X.heap.size, j, none⟩ = some (.int .u8 ((L.getD j 0).toNat : Int))) := by
  have hr := Lib.run_convert_string_bytes (P := Try.prog) X 9 41 5 (toB L) (u := .string) Try.underlying9 Try.underlying41 Try.underlying5
  obtain ⟨n, es, he⟩ := below_more (X := X) (w' := Lib.bytesWorld X 5 (toB L)) ⟨rfl, rfl, rfl, by rw [Lib.bytesWorld_size]; omega, fun k hk => Lib.bytesWorld_at_old X _ _ k hk⟩
  rw [he, toB_size] at hr
  refine ⟨n, es, _, hr, fun j hj => ?_⟩
  have := Lib.bytesWorld_cell X 5 (toB L) j (by rw [toB_size]; exact hj)
  rw [he] at this
  exact this
theorem i64_62 (n : Int) (h1 : 0 ≤ n) (h2 : n < 2 ^ 62) : IntKind.i64.wrap n = n := by
  have h3 : n < 4611686018427387904 := h2
  exact IntWalk.i64_in _ (by omega)
theorem set_twice (w : World) (a : Addr) (u v : Value) : (w.setCell a u).setCell a v = w.setCell a v := by
  simp only [World.setCell]
  congr 1
  apply Array.ext_getElem?
  intro i
  rw [Array.getElem?_modify, Array.getElem?_modify, Array.getElem?_modify]
  by_cases h : a.block = i
  · simp only [h, if_true, Option.map_map]
    congr 1
    funext o
    cases o <;> simp
    by_cases hs : a.spot.isSome = true <;> simp [hs]
  · simp [h]
theorem dec_snoc (l : List UInt8) (b : UInt8) : decN (l ++ [b]) = decN l * 256 + b.toNat := by
  simp [decN, decA, List.foldl_append]
set_option maxHeartbeats 4000000 in
theorem front_any (b : Nat) (w : World) (s : ByteArray) (n : Nat) (h : Blc w b 78 #[.string s]) (hs : s.size ≤ 140737488355328) (hn : n ≤ 140737488355328) :
    Calls Try.prog 46 #[.pointer (some ⟨b, 0, none⟩), .int .i64 n] w fun e w' => e = .returned (.string (toB (s.data.toList.take n))) ∧ w' = w.setCell ⟨b, 0, none⟩ (.string (toB (s.data.toList.drop n))) := by
  have c0 := h.cell 0
  have f0 := h.free 0
  have hlt : Lt b w.heap.size := h.lt
  simp only [List.getElem?_toArray, List.getElem?_cons_zero] at c0
  clear h
  by_cases hle : n ≤ s.size
  · have k1 : ¬ ((s.size : Int) < (n : Int)) := by omega
    have k2 : (n : Int) ≤ (s.size : Int) := by omega
    have k3 : min (n : Int) (s.size : Int) = (n : Int) := by omega
    go_enter Try.func46, Try.ntmps46
    go_wp2
    go_ret
    exact ⟨congrArg Ending.returned (congrArg Value.string (ext_take s n)), by rw [ext_drop]⟩
  · have k1 : (s.size : Int) < (n : Int) := by omega
    have k2 : ¬ (n : Int) ≤ (s.size : Int) := by omega
    have k3 : min (n : Int) (s.size : Int) = (s.size : Int) := by omega
    rw [(take_all s n (by omega)).1, (take_all s n (by omega)).2]
    go_enter Try.func46, Try.ntmps46
    go_wp2
    go_ret
    exact ⟨congrArg Ending.returned (congrArg Value.string (all_take s)), by rw [all_drop]⟩

set_option maxRecDepth 100000 in
set_option maxHeartbeats 4000000 in
theorem srcNumber_any (b : Nat) (w : World) (s : ByteArray) (k : Nat) (hk : k ≤ 4) (h : Blc w b 78 #[.string s]) (hs : s.size ≤ 140737488355328) :
    Calls Try.prog 37 #[.pointer (some ⟨b, 0, none⟩), .int .i64 k] w fun e w' => e = .returned (.int .i64 (decN (s.data.toList.take k))) ∧ ∃ n es, w' = more (w.setCell ⟨b, 0, none⟩ (.string (toB (s.data.toList.drop k)))) n es := by
  have HB := Lib.hid h
  have hlen : (s.data.toList.take k).length ≤ k := by rw [List.length_take]; omega
  generalize hL : s.data.toList.take k = L at *
  have HL := Lib.hid hL
  clear h hL
  go_enter Try.func37, Try.ntmps37
  go_wp2_with fail
  refine (front_any b _ s k HB.out hs (by omega)).mono ?_
  rintro e w' ⟨rfl, rfl⟩
  rw [HL.out]
  generalize hX : w.setCell ⟨b, 0, none⟩ (.string (toB (s.data.toList.drop k))) = X at *
  have HX := Lib.hid hX
  clear hX
  obtain ⟨n, es, cap, hr, hc⟩ := conv_sb X L
  have HC := Lib.hid hc
  clear hc
  go_wp2_with fail
  go_loopg [5, 13] (L.length + 1) (fun g s5 s13 wr => wr = more X n es ∧ ∃ j : Nat, j ≤ L.length ∧ g + j = L.length + 1 ∧ s13 = .int .i64 j ∧ s5 = .int .i64 (decN (L.take j)))
  case atStart => exact ⟨rfl, 0, Nat.zero_le _, rfl, rfl, rfl⟩
  case round =>
    obtain ⟨rfl, j, hj, hg, rfl, rfl⟩ := hrel
    obtain rfl : gk = L.length + 1 - j := by omega
    clear hg
    by_cases hlt : j < L.length
    · have hjl : (j : Int) < (L.length : Int) := by omega
      have hc := HC.out j hlt
      have hb : (L.getD j 0).toNat < 256 := (L.getD j 0).toNat_lt
      have hd : decN (L.take (j + 1)) = decN (L.take j) * 256 + (L.getD j 0).toNat := by
        rw [List.take_succ_eq_append_getElem hlt, dec_snoc]
        simp [List.getD, hlt]
      have hdl := decN_take L j
      generalize (L.getD j 0).toNat = x at *
      generalize hy : decN (L.take j) = y at *
      have hy3 : y < 16777216 := Nat.lt_of_lt_of_le hdl (Nat.le_trans (Nat.pow_le_pow_right (by decide) (show j ≤ 3 by omega)) (by decide))
      have HW : Hid (bits .or .i64 ((y : Int) * 256) (x : Int) = ((y * 256 + x : Nat) : Int)) := Lib.hid (by
        rw [bits_join .i64 62 (by decide) i64_62 8 _ _ (by omega) (by show (y : Int) * 256 % 256 = 0; omega) (by show (y : Int) * 256 < 4611686018427387904; omega) (by omega) (by show (x : Int) < 256; omega) (by show (x : Int) < 4611686018427387904; omega)]
        push_cast; rfl)
      go_wp2
      rw [HW.out]
      go_roundg (L.length + 1 - j - 1)
      case measure => omega
      case rel => exact ⟨rfl, j + 1, by omega, by omega, by go_num, by rw [hd]⟩
    · have e : j = L.length := by omega
      have hjl : ¬ (j : Int) < (L.length : Int) := by omega
      go_wp2
      go_ret
      exact ⟨rfl, n, es, by rw [HX.out]⟩
theorem clone_any (s : ByteArray) (w : World) (hs : s.size ≤ 140737488355328) :
    Calls Try.prog 47 #[.string s] w fun e w' => e = .returned (.string s) ∧ Below w.heap.size w w' := by
  go_enter Try.func47, Try.ntmps47
  go_wp2_with fail
  refine (Try.stringslite_Clone s _ (by omega)).mono ?_
  (rintro e w' ⟨rfl, hb⟩; obtain ⟨n, es, rfl⟩ := below_more hb; clear hb)
  go_wp2
  go_ret
  exact ⟨rfl, by (repeat (first | exact Below.refl _ _ | assumption | refine nw_more ?_ _ _ | refine nw_alloc ?_ _ | refine nw_drew ?_ | refine nw_drewN ?_ _ | refine nw_set ?_ (by first | (simp; done) | (simp; omega) | omega) _))⟩

set_option maxRecDepth 100000 in
set_option maxHeartbeats 4000000 in
theorem srcText_any (b : Nat) (w : World) (s : ByteArray) (h : Blc w b 78 #[.string s]) (hs : s.size ≤ 140737488355328) :
    Calls Try.prog 38 #[.pointer (some ⟨b, 0, none⟩)] w fun e w' => e = .returned (.string (txtP s.data.toList).1) ∧ ∃ n es, w' = more (w.setCell ⟨b, 0, none⟩ (.string (toB (txtP s.data.toList).2))) n es := by
  have hd := decN_take s.data.toList 1
  have hl1 : (s.data.toList.drop 1).length ≤ 140737488355328 := by rw [List.length_drop, Array.length_toList]; show s.size - 1 ≤ _; omega
  have HN := Lib.hid (srcNumber_any b w s 1 (by decide) h hs)
  have HB1 := Lib.hid (h.set 0 (.string (toB (s.data.toList.drop 1))))
  clear h
  unfold txtP
  dsimp only
  generalize s.data.toList.drop 1 = L at *
  generalize decN (s.data.toList.take 1) = d at *
  go_enter Try.func38, Try.ntmps38
  go_wp2_with fail
  refine HN.out.mono ?_
  rintro e w' ⟨rfl, n1, es1, rfl⟩
  go_wp2_with fail
  refine (front_any b _ (toB L) d (by have := HB1.out.mre n1 es1; simpa using this) (by rw [toB_size]; exact hl1) (by omega)).mono ?_
  rintro e w' ⟨rfl, rfl⟩
  rw [toB_data]
  have hz : (toB (L.take d)).size ≤ 140737488355328 := by rw [toB_size, List.length_take]; omega
  generalize ht : toB (L.take d) = t at *
  have HT := Lib.hid ht
  clear ht
  go_wp2_with fail
  refine (clone_any t _ hz).mono ?_
  (rintro e w' ⟨rfl, hb⟩; obtain ⟨n, es, rfl⟩ := below_more hb; clear hb)
  have hX : (more (w.setCell ⟨b, 0, none⟩ (.string (toB L))) n1 es1).setCell ⟨b, 0, none⟩ (.string (toB (L.drop d))) = more (w.setCell ⟨b, 0, none⟩ (.string (toB (L.drop d)))) n1 es1 := by
    have hlt : Lt b (w.setCell ⟨b, 0, none⟩ (.string (toB L))).heap.size := HB1.out.lt
    rw [more_setCell _ _ _ _ _ _ hlt, set_twice]
  rw [hX, more_more]
  go_wp2
  go_ret
  exact ⟨congrArg Ending.returned (congrArg Value.string HT.out.symm), _, _, rfl⟩
end Go.Proofs.Ytaelgappabecgaa
