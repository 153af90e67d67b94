/- CodeLong returns true. No condition. -/
import Derived.Test.YtaelgappabecgaaCoM
import Derived.Test.YtaelgappabecgaaCoPure
import Derived.Test.YtaelgappabecgaaCoW
import Derived.Lib.SmallJoins
import Derived.Deep.DeepCutAuto
import Derived.Deep.CutBlock
import Derived.Deep.CutRange
namespace Go.Proofs.Ytaelgappabecgaa
open Go.RowKit

/-- Append to a row that the call owns; what the row was is still there. -/
theorem run_append_keeps {P : Program} (w : World) (base : Nat) (t ty e : TypeId) (i : TypeInfo) (z : Value) (size bytes : Nat) (ht : P.underlying t = some (.slice e)) (hi : P.info? e = some i) (hz : i.zero = some z)
    (hsize : i.size = size) (hby : i.bytes = bytes) (hzs : z.cells.size = size) (hsz : 0 < size)
    (v : Value) (n : Nat) (xs : List Value) (hown : w.ownsRow base e size v n xs)
    (a : Addr) (m c : Nat) (news : List Value) (hl : news.length = m * size) (hnews : ∀ j u, news[j]? = some u → w.cell? (a.add j) = some u) (h1 : ∀ u ∈ news, u.oneCell' = true)
    (h63 : n + m ≤ maxLen) (hbytes : (n + m) * bytes ≤ 140737488355328) (hbase : base ≤ w.heap.size) :
    ∃ v' w', (Builtin.append_ #[t, t] ty #[v, .slice (some a) m c]).run P w = .ok v' w' ∧ w'.ownsRow base e size v' (n + m) (xs ++ news) ∧ w.grownBy w' v.ownBlock ∧ w'.ownsRow base e size v n xs := by
  obtain ⟨v', w', hr, h2, h3, -⟩ := run_append_own (P := P) w base t ty e i z size bytes ht hi hz hsize hby hzs hsz v n xs hown a m c news hl hnews h1 h63 hbytes hbase
  refine ⟨v', w', hr, h2, h3, ?_⟩
  subst hsize
  subst hby
  have hsmall : n + m ≤ 9223372036854775807 := by simp only [maxLen] at h63; omega
  rcases hown.2 with ⟨rfl, rfl⟩ | ⟨g, cap, cur, rfl, hbg, hg, hnc, hcm, hcs, htake⟩
  · have hx : xs = [] := List.eq_nil_of_length_eq_zero (by simpa using hown.1)
    subst hx
    exact World.ownsRow_nil _ _ _ _
  · by_cases hroom : n + m ≤ cap
    · have hfit : n * i.size + news.length ≤ cur.size := by rw [hl, hcs, ← Nat.add_mul]; exact Nat.mul_le_mul_right _ hroom
      have hr2 := run_append_room (P := P) w t ty e i ht hi g n cap cur hg a m c news hl hnews h1 hroom hfit
      rw [hr] at hr2
      simp only [Result.ok.injEq] at hr2
      obtain ⟨-, rfl⟩ := hr2
      refine ⟨hown.1, .inr ⟨g, cap, _, rfl, hbg, setRow_heap w g cur _ e _ hg, hnc, hcm, ?_, ?_⟩⟩
      · simp only [List.size_toArray, List.length_append, List.length_take, List.length_drop, Array.length_toList]
        omega
      · rw [htake, List.append_assoc, ← hown.1]
        exact List.take_left
    · have holds : ∀ j u, xs[j]? = some u → w.cell? ((⟨g, 0, none⟩ : Addr).add j) = some u := hown.cells (g := g) rfl
      have hr2 := run_append_grow (P := P) w t ty e i z ht hi hz ⟨g, 0, none⟩ n cap xs hown.1 holds a m c news hl hnews (by omega) (by omega) (growslice_fits (by omega) hbytes)
      rw [hr] at hr2
      simp only [Result.ok.injEq] at hr2
      obtain ⟨-, rfl⟩ := hr2
      exact ⟨hown.1, .inr ⟨g, cap, cur, rfl, hbg, (heap_alloc_old w.drew _ (Array.getElem?_eq_some_iff.1 hg).1).trans hg, hnc, hcm, hcs, htake⟩⟩
theorem wpList_append_keeps {P : Program} {w : World} {ops : Array Oper} {rest : List Oper} {o : Oper} {a : Act} {Q : Exit → Act → World → Prop} (hgd : o.guard = none) (s x : Operand) (t : TypeId)
    (ho : o.op = .call { callee := .builtin .append, args := #[s, x], argTypes := #[t, t] })
    (base : Nat) (e : TypeId) (i : TypeInfo) (z : Value) (size bytes : Nat) (ht : P.underlying t = some (.slice e)) (hi : P.info? e = some i) (hz : i.zero = some z)
    (hsize : i.size = size) (hby : i.bytes = bytes) (hzs : z.cells.size = size) (hsz : 0 < size)
    (v : Value) (n : Nat) (xs : List Value) (hs : a.eval s = v) (hown : w.ownsRow base e size v n xs)
    (ad : Addr) (m c : Nat) (news : List Value) (hx : a.eval x = .slice (some ad) m c) (hl : news.length = m * size) (hnews : ∀ j u, news[j]? = some u → w.cell? (ad.add j) = some u) (h1 : ∀ u ∈ news, u.oneCell' = true)
    (h63 : n + m ≤ maxLen) (hbytes : (n + m) * bytes ≤ 140737488355328) (hbase : base ≤ w.heap.size)
    (h : ∀ v' w', w'.ownsRow base e size v' (n + m) (xs ++ news) → w.grownBy w' v.ownBlock → w'.ownsRow base e size v n xs → wpList P ops Q rest (a.put o.dst v') w') : wpList P ops Q (o :: rest) a w :=
  wpList_plain hgd fun _ hK => by
    obtain ⟨v', w', hr, h2, h3, h4⟩ := run_append_keeps (P := P) w base t o.type e i z size bytes ht hi hz hsize hby hzs hsz v n xs hown ad m c news hl hnews h1 h63 hbytes hbase
    unfold Oper.wp execOp
    simp only [ho, resolve, invoke, builtin, Sem.run_bind, Sem.run_pure, Result.andThen_ok, List.map_toArray, List.map_cons, List.map_nil, hs, hx, hr]
    exact hK _ _ (h v' w' h2 h3 h4)

/-- The writes that the law makes. -/
def lKey (i : Nat) : List UInt8 := [(97 + i / 8).toUInt8, (97 + i % 8).toUInt8, 107, 107, 107, 107, 107, 107, 107, 107, 107, 107]
def lVal : ByteArray := { data := #[118, 118, 118, 118, 118, 118, 118, 118, 118, 118, 118, 118, 118, 118, 118, 118, 118, 118, 118, 118] }
def lWr (i : Nat) : Wr := ⟨(i : Int) % 3, toB (lKey i), lVal, false⟩
def lRow (n : Nat) : List Wr := (List.range n).map lWr
theorem lRow_succ (n : Nat) : lRow (n + 1) = lRow n ++ [lWr n] := by unfold lRow; rw [List.range_succ, List.map_append]; rfl
theorem lRow_length (n : Nat) : (lRow n).length = n := by unfold lRow; rw [List.length_map, List.length_range]
theorem lRow_ok : rOk 1073741824 (lRow 64) = true := by decide +kernel
theorem lRow_not (x : Wr) : rOk 1 (lRow 64 ++ [x]) = false := by
  cases h : rOk 1 (lRow 64 ++ [x]) with
  | false => rfl
  | true =>
    obtain ⟨-, -, h2, -⟩ := rOk_parts h
    rw [List.length_append, lRow_length] at h2
    simp at h2
theorem lRow_small : ∀ x ∈ lRow 64, x.k.size ≤ 140737488355328 ∧ x.s.size ≤ 140737488355328 := fun x hx => by
  obtain ⟨-, -, -, h3⟩ := rOk_parts lRow_ok
  exact wOk_small (List.all_eq_true.1 h3 x hx)
/-- Rows that were owned by calls one behind the other lie apart. -/
theorem own_other {w w0 : World} {B B0 : Nat} {e e0 : TypeId} {s s0 : Nat} {v v0 : Value} {n n0 : Nat} {xs xs0 : List Value} (h : w.ownsRow B e s v n xs) (h0 : w0.ownsRow B0 e0 s0 v0 n0 xs0) (hB : w0.heap.size ≤ B) : v.ownBlock = none ∨ v.ownBlock ≠ v0.ownBlock := by
  cases hv : v.ownBlock with
  | none => exact .inl rfl
  | some g =>
    refine .inr (fun e => ?_)
    have h1 := h.lt g hv
    have h2 := h0.lt g e.symm
    omega
/-- The first of the records that a call owns. -/
theorem RdI.one {B : Nat} {w : World} {v : Value} {y : Rv} (h : RdI B w v [y]) : ∃ g cap, v = .slice (some ⟨g, 0, none⟩) 1 cap ∧ Lt g w.heap.size ∧ w.cell? ⟨g, 0, none⟩ = some (.int .i64 y.c) ∧ w.cell? ⟨g, 1, none⟩ = some y.v := by
  rcases h.row.2 with ⟨-, h0⟩ | ⟨g, cap, cur, e, hb, hg, hc, -⟩
  · simp at h0
  · subst e
    have h0 := h.row.cellAt 0 (by simp)
    have h1 := h.row.cellAt 1 (by simp)
    exact ⟨g, cap, rfl, (Array.getElem?_eq_some_iff.1 hg).1, by rw [h0]; rfl, by rw [h1]; rfl⟩
/-- What the loop holds. -/
structure LgI (w wr : World) (A : Array Value) (v : Value) (n : Nat) : Prop where
  below : Below w.heap.size w wr
  ask : Blc wr w.heap.size 27 A
  box : Blc wr (w.heap.size + 1) 34 #[.int .i64 1073741824, v]
  row : OwnW w.heap.size wr v (lRow n)
theorem LgI.on {w wr wx : World} {A : Array Value} {v : Value} {n : Nat} (h : LgI w wr A v n) (hb : Below wr.heap.size wr wx) : LgI w wx A v n :=
  ⟨h.below.trans (hb.mono h.below.size), h.ask.below hb, h.box.below hb, h.row.below hb⟩
theorem LgI.put {w wr w4 : World} {A : Array Value} {v V : Value} {n : Nat} (h : LgI w wr A v n) (ho : w4.ownsRow w.heap.size 43 4 V (n + 1) (wCells (lRow n) ++ wCells [lWr n])) (hg : wr.grownBy w4 v.ownBlock) : LgI w (w4.setCell ⟨w.heap.size + 1, 1, none⟩ V) A V (n + 1) := by
  have ho' : OwnW w.heap.size w4 V (lRow (n + 1)) := by unfold OwnW; rw [lRow_succ, List.length_append, lRow_length, wCells_append]; exact ho
  have hbox := h.box.grown hg (not_own h.row h.box (by decide))
  refine ⟨(below_append h.below h.row hg).setCell (Nat.le_succ _) V, (h.ask.grown hg (not_own h.row h.ask (by decide))).far (by simp) V, ?_, ownsRow_setCell_other ho' (not_own ho' hbox (by decide)) _⟩
  have := hbox.set 1 V
  simpa using this
set_option maxRecDepth 100000 in
set_option maxHeartbeats 32000000 in
theorem codeLong_any (w : World) (rv sv lv : Value) (np : Option Addr) (nn nc : Nat) (R : List Rv) (S : List ByteArray) (Q : List (Value × List ByteArray)) (_hnn : nn ≤ 140737488355328) (_hr : RcAt w rv R) (_hs : SsAt w sv S) (_hq : LsAt w lv Q) :
    Calls Try.prog 4 #[.agg #[rv, sv, .slice np nn nc, lv]] w fun e w' => e = .returned (.bool true) ∧ Below w.heap.size w w' := by
  clear _hnn
  obtain ⟨i0, hi0, hz00, hz01, hz02⟩ := info_parts info_write
  have HI0 := Lib.hid hi0
  clear hi0
  go_enter Try.func4, Try.ntmps4
  go_wp2_with fail
  go_loopg [4] 65 (fun g s4 wr => ∃ (i : Nat) (v : Value), g + i = 65 ∧ i ≤ 64 ∧ s4 = .int .i64 i ∧ Hid (LgI w wr #[rv, sv, .slice np nn nc, lv] v i))
  case atStart =>
    refine ⟨0, .slice none 0 0, rfl, by omega, rfl, Lib.hid ⟨by (repeat (first | exact Below.refl _ _ | assumption | refine nw_more ?_ _ _ | refine nw_alloc ?_ _ | refine nw_drew ?_ | refine nw_drewN ?_ _ | refine nw_set ?_ (by first | (simp; done) | (simp; omega) | omega) _)), by (repeat (first | exact Blc.newAt _ _ _ (by simp; done) | refine Blc.alloc ?_ _ | refine Blc.mre ?_ _ _)), by (repeat (first | exact Blc.newAt _ _ _ (by simp; done) | refine Blc.alloc ?_ _ | refine Blc.mre ?_ _ _)), OwnW.nil _ _⟩⟩
  case round =>
    obtain ⟨i, v, hg, hi6, rfl, HI⟩ := hrel
    obtain rfl : gk = 65 - i := by omega
    clear hg
    by_cases hlt : i < 64
    · have hlti : (i : Int) < 64 := by omega
      have x1 := HI.out.box.cell 1
      have xl : Lt (w.heap.size + 1) wr.heap.size := HI.out.box.lt
      simp only [List.getElem?_toArray, List.getElem?_cons_succ, List.getElem?_cons_zero] at x1
      have hcv := Joins.run_convert_bytes_const_at (P := Try.prog) wr 41 5 #[.int .u8 107, .int .u8 107, .int .u8 107, .int .u8 107, .int .u8 107, .int .u8 107, .int .u8 107, .int .u8 107, .int .u8 107, .int .u8 107, .int .u8 107, .int .u8 107] 12 12 wr.heap.size rfl Try.underlying41 Try.underlying5
      go_upto_region 6 with (fail)
      clear hcv
      obtain ⟨WB, hWB⟩ : ∃ WB, WB = wr.alloc (Obj.cells #[.int .u8 107, .int .u8 107, .int .u8 107, .int .u8 107, .int .u8 107, .int .u8 107, .int .u8 107, .int .u8 107, .int .u8 107, .int .u8 107, .int .u8 107, .int .u8 107] 5 (12, 13)) := ⟨_, rfl⟩
      have hwz : WB.heap[wr.heap.size]? = some (Obj.cells #[.int .u8 107, .int .u8 107, .int .u8 107, .int .u8 107, .int .u8 107, .int .u8 107, .int .u8 107, .int .u8 107, .int .u8 107, .int .u8 107, .int .u8 107, .int .u8 107] 5 (12, 13)) := by subst hWB; exact heap_alloc_new wr _
      have hwb : Below wr.heap.size wr WB := by subst hWB; (repeat (first | exact Below.refl _ _ | assumption | refine nw_more ?_ _ _ | refine nw_alloc ?_ _ | refine nw_drew ?_ | refine nw_drewN ?_ _ | refine nw_set ?_ (by first | (simp; done) | (simp; omega) | omega) _))
      rw [← hWB]
      clear hWB
      have f0 : WB.frozen? ⟨wr.heap.size, 0, none⟩ = false := by simp [World.frozen?, hwz]
      have f1 : WB.frozen? ⟨wr.heap.size, 1, none⟩ = false := by simp [World.frozen?, hwz]
      have c0 : WB.cell? ⟨wr.heap.size, 0, none⟩ = some (.int .u8 107) := by simp [World.cell?, hwz]
      have c1 : WB.cell? ⟨wr.heap.size, 1, none⟩ = some (.int .u8 107) := by simp [World.cell?, hwz]
      go_cut [] (fun wx => Hid (Below wr.heap.size wr wx) ∧ Hid (∀ j (hj : j < (lKey i).length), wx.cell? ⟨wr.heap.size, j, none⟩ = some (.int .u8 ((lKey i)[j].toNat : Int))))
      case first =>
        have HWZ := Lib.hid hwz
        have HWB := Lib.hid hwb
        clear hwz hwb x1 xl
        go_wp2_with fail
        go_meet
        refine ⟨Lib.hid (by have hwb := HWB.out; (repeat (first | exact Below.refl _ _ | assumption | refine nw_more ?_ _ _ | refine nw_alloc ?_ _ | refine nw_drew ?_ | refine nw_drewN ?_ _ | refine nw_set ?_ (by first | (simp; done) | (simp; omega) | omega) _))), Lib.hid (fun j hj => ?_)⟩
        rw [Joins.cell_of_block (Joins.block_setCell (Joins.block_setCell HWZ.out _) _) j]
        have hj12 : j = 0 ∨ j = 1 ∨ j = 2 ∨ j = 3 ∨ j = 4 ∨ j = 5 ∨ j = 6 ∨ j = 7 ∨ j = 8 ∨ j = 9 ∨ j = 10 ∨ j = 11 := by simp [lKey] at hj; omega
        rcases hj12 with rfl | rfl | rfl | rfl | rfl | rfl | rfl | rfl | rfl | rfl | rfl | rfl
        · simp [lKey]; omega
        · simp [lKey]; omega
        all_goals rfl
      case rest =>
        clear hwz hwb f0 f1 c0 c1 x1 xl
        obtain ⟨HBX, HK⟩ := hcut
        have HIX := Lib.hid (HI.out.on HBX.out)
        clear HI
        have hcv := conv_bs wc wr.heap.size 0 12 (lKey i) (fun j hj => by rw [Nat.zero_add]; exact HK.out j hj)
        have x1 := HIX.out.box.cell 1
        have xf := HIX.out.box.free 1
        have xl : Lt (w.heap.size + 1) wc.heap.size := HIX.out.box.lt
        simp only [List.getElem?_toArray, List.getElem?_cons_succ, List.getElem?_cons_zero] at x1
        simp only [show (lKey i).length = 12 from rfl] at hcv
        obtain ⟨q, qc, ev⟩ := HIX.out.row.slice
        rw [lRow_length] at ev
        subst ev
        have hrow : wc.ownsRow w.heap.size 43 4 (.slice q i qc) i (wCells (lRow i)) := by
          have h := HIX.out.row
          unfold OwnW at h
          rwa [lRow_length] at h
        have HROW := Lib.hid hrow
        clear hrow
        go_wp2_with (at_builtin; refine wpList_append_own _ rfl _ _ 32 rfl w.heap.size 43 i0 (.agg #[.int .i64 0, .string { data := #[] }, .string { data := #[] }, .bool false]) 4 48 Try.underlying32 HI0.out hz00 hz01 hz02 rfl (by decide) _ i (wCells (lRow i)) rfl (own_below HROW.out (by (repeat (first | exact Below.refl _ _ | assumption | refine nw_more ?_ _ _ | refine nw_alloc ?_ _ | refine nw_drew ?_ | refine nw_drewN ?_ _ | refine nw_set ?_ (by first | (simp; done) | (simp; omega) | omega) _)))) ⟨_, 0, none⟩ 1 1 (wCells [lWr i]) rfl rfl ?c1 ?c2 ?c3 ?c4 ?c5 ?_)
        case c1 => exact news4 (by simp [go_sem, lWr]) (by simp [go_sem, lWr]) (by simp [go_sem, lWr, lVal]) (by simp [go_sem, lWr])
        case c2 => exact wCells_one _
        case c3 => unfold maxLen; omega
        case c4 => omega
        case c5 => have := HIX.out.below.size; simp; omega
        intro V w4 hown hgrow hnil
        clear hnil
        have hix := HIX.out.on (wx := wc.alloc (Obj.cells #[.int .i64 ((i : Int) % 3), .string (toB (lKey i)), .string lVal, .bool false] 43)) (by (repeat (first | exact Below.refl _ _ | assumption | refine nw_more ?_ _ _ | refine nw_alloc ?_ _ | refine nw_drew ?_ | refine nw_drewN ?_ _ | refine nw_set ?_ (by first | (simp; done) | (simp; omega) | omega) _)))
        have hbx4 := hix.box.grown hgrow (not_own hix.row hix.box (by decide))
        have hnew := hix.put hown hgrow
        obtain ⟨q4, c4, e4⟩ : ∃ q4 c4, V = .slice q4 (i + 1) c4 := by
          obtain ⟨g4, c4, e4⟩ := Joins.ownsRow_form hown (by omega)
          exact ⟨_, _, e4⟩
        subst e4
        have HNEW := Lib.hid hnew
        have y1 := hbx4.cell 1
        have yf := hbx4.free 1
        have yl : Lt (w.heap.size + 1) w4.heap.size := hbx4.lt
        simp only [List.getElem?_toArray, List.getElem?_cons_succ, List.getElem?_cons_zero] at y1
        clear hown hgrow hix hbx4 hnew x1 xf xl hcv HIX HROW HK HBX
        go_wp2
        go_roundg (65 - i - 1)
        case measure => omega
        case rel => exact ⟨i + 1, _, by omega, by omega, by go_num, HNEW⟩
    · obtain rfl : i = 64 := by omega
      clear hlt hi6
      have x0 := HI.out.box.cell 0
      have x1 := HI.out.box.cell 1
      have xl : Lt (w.heap.size + 1) wr.heap.size := HI.out.box.lt
      simp only [List.getElem?_toArray, List.getElem?_cons_succ, List.getElem?_cons_zero] at x0 x1
      obtain ⟨q, qc, ev⟩ := HI.out.row.slice
      rw [lRow_length] at ev
      subst ev
      obtain ⟨hnp1, hnp2⟩ := nParts_ok lRow_ok
      have hrb := rBytes_len lRow_ok
      have HT := Lib.hid (takeP_of lRow_ok)
      have HRP : Hid (readP ((secs (rBytes 1073741824 (lRow 64)) 3 4).length + 1) (secs (rBytes 1073741824 (lRow 64)) 3 4) 3 4 = ([(1073741824, lRow 64)], nParts (rBytes 1073741824 (lRow 64)))) := Lib.hid (by
        have h1 := readP_cat 3 [] [(1073741824, lRow 64)] 4 ((secs (rBytes 1073741824 (lRow 64)) 3 4).length + 1) (fun r hr => by obtain rfl := List.mem_singleton.1 hr; exact lRow_ok) (by simp) (by simp) (firstP_nil _ _)
        rw [List.append_nil] at h1
        simp only [catS, List.append_nil] at h1
        rw [h1, secs_len])
      have HWS : Hid (∀ wx, LgI w wx #[rv, sv, .slice np nn nc, lv] (.slice q 64 qc) 64 → WsAt wx (.slice q 64 qc) (lRow 64)) := Lib.hid (fun wx h => h.row.at (by rw [lRow_length]; omega) lRow_small)
      go_wp2_with fail
      refine (bytes_any wr 1073741824 _ (lRow 64) (HWS.out _ HI.out)).mono ?_
      rw [lRow_ok]
      rintro e w1 ⟨rfl, hb⟩
      simp only [if_true]
      have HI1 := Lib.hid (HI.out.on hb)
      have hz1 := hb.size
      have HR1 := Lib.hid HI1.out.row
      clear hb x0 x1 xl HI
      go_wp2_with fail
      refine (take_any _ (rBytes 1073741824 (lRow 64)) (by omega)).mono ?_
      rw [HT.out]
      rintro e w2 ⟨⟨u, he, ho⟩, hb⟩
      dsimp only at he ho
      subst he
      obtain ⟨up, uc, eu⟩ := ho.slice
      rw [lRow_length] at eu
      subst eu
      have HI2 := Lib.hid (HI1.out.on hb)
      have HU2 := Lib.hid ho
      have hz2 := hb.size
      clear hb ho HI1
      unfold rTwo
      have x0 := HI2.out.box.cell 0
      have x1 := HI2.out.box.cell 1
      have xl : Lt (w.heap.size + 1) w2.heap.size := HI2.out.box.lt
      simp only [List.getElem?_toArray, List.getElem?_cons_succ, List.getElem?_cons_zero] at x0 x1
      go_wp2_with fail
      obtain ⟨X, hX⟩ : ∃ X, X = w2.alloc (Obj.cells #[.int .i64 1073741824, .slice up 64 uc] 34) := ⟨_, rfl⟩
      rw [← hX]
      have hbX : Below w2.heap.size w2 X := by subst hX; (repeat (first | exact Below.refl _ _ | assumption | refine nw_more ?_ _ _ | refine nw_alloc ?_ _ | refine nw_drew ?_ | refine nw_drewN ?_ _ | refine nw_set ?_ (by first | (simp; done) | (simp; omega) | omega) _))
      have h8 : Blc X w2.heap.size 34 #[.int .i64 1073741824, .slice up 64 uc] := by subst hX; (repeat (first | exact Blc.newAt _ _ _ (by simp; done) | refine Blc.alloc ?_ _ | refine Blc.mre ?_ _ _))
      have HIX := Lib.hid (HI2.out.on hbX)
      have HUX := Lib.hid (HU2.out.below hbX)
      have HB8 := Lib.hid h8
      have hzX := hbX.size
      clear hX hbX h8 x0 x1 xl HI2 HU2
      refine (sectors_any X 1073741824 _ (lRow 64) 3 4 (HWS.out _ HIX.out) (by omega) (by omega)).mono ?_
      rw [lRow_ok]
      simp only [if_true]
      rintro e w3 ⟨l, rfl, hol, hb⟩
      have hL : SsAt w3 l (secs (rBytes 1073741824 (lRow 64)) 3 4) := hol.at (by rw [secs_len]; omega) (fun s hs => by rw [secs_size hs]; omega)
      obtain ⟨lq, lc, el⟩ := hol.form
      rw [secs_len] at el
      subst el
      have HL := Lib.hid hL
      have HI3 := Lib.hid (HIX.out.on hb)
      have HU3 := Lib.hid (HUX.out.below hb)
      have HB83 := Lib.hid (HB8.out.below hb)
      have hz3 := hb.size
      clear hb hol hL HIX HUX HB8
      go_wp2_with fail
      refine (read_any _ _ (secs (rBytes 1073741824 (lRow 64)) 3 4) 3 4 HL.out (by rw [secs_len]; omega) (by omega) (by omega)).mono ?_
      rw [HRP.out]
      rintro e w4 ⟨v4, P4, rfl, hp4, hrd, hb⟩
      dsimp only at hp4
      obtain ⟨⟨c', v', l'⟩, P5, rfl, hy0, hy1⟩ := List.map_eq_cons_iff.1 hp4
      obtain rfl := List.map_eq_nil_iff.1 hy1
      simp only [Rv.pl, Prod.mk.injEq] at hy0
      obtain ⟨e1, e2⟩ := hy0
      rw [e1, e2] at hrd
      have HI4 := Lib.hid (HI3.out.on hb)
      have HU4 := Lib.hid (HU3.out.below hb)
      have HB84 := Lib.hid (HB83.out.below hb)
      have HRD := Lib.hid hrd
      have hz4 := hb.size
      clear hb HI3 HU3 HB83 HL hp4 hy1 e1 e2 hrd HT HRP
      have x0 := HI4.out.box.cell 0
      have x1 := HI4.out.box.cell 1
      have xl : Lt (w.heap.size + 1) w4.heap.size := HI4.out.box.lt
      simp only [List.getElem?_toArray, List.getElem?_cons_succ, List.getElem?_cons_zero] at x0 x1
      have hrow : w4.ownsRow w.heap.size 43 4 (.slice q 64 qc) 64 (wCells (lRow 64)) := by
        have h := HI4.out.row
        unfold OwnW at h
        rwa [lRow_length] at h
      have HROW := Lib.hid hrow
      clear hrow
      go_wp2_with (at_builtin; refine wpList_append_keeps rfl _ _ 32 rfl w.heap.size 43 i0 (.agg #[.int .i64 0, .string { data := #[] }, .string { data := #[] }, .bool false]) 4 48 Try.underlying32 HI0.out hz00 hz01 hz02 rfl (by decide) _ 64 (wCells (lRow 64)) rfl (own_below HROW.out (by (repeat (first | exact Below.refl _ _ | assumption | refine nw_more ?_ _ _ | refine nw_alloc ?_ _ | refine nw_drew ?_ | refine nw_drewN ?_ _ | refine nw_set ?_ (by first | (simp; done) | (simp; omega) | omega) _)))) ⟨_, 0, none⟩ 1 1 (wCells [⟨0, { data := #[97] }, { data := #[] }, false⟩]) rfl rfl ?c1 ?c2 ?c3 ?c4 ?c5 ?_)
      case c1 => exact news4 (by simp [go_sem]) (by simp [go_sem]) (by simp [go_sem]) (by simp [go_sem])
      case c2 => exact wCells_one _
      case c3 => unfold maxLen; omega
      case c4 => omega
      case c5 => have := HI4.out.below.size; simp; omega
      intro V w5 hown hgrow hkeep
      obtain ⟨Y, hY⟩ : ∃ Y, Y = w4.alloc (Obj.cells #[.int .i64 0, .string { data := #[97] }, .string { data := #[] }, .bool false] 43) := ⟨_, rfl⟩
      rw [← hY] at hgrow
      have hbY : Below w4.heap.size w4 Y := by subst hY; (repeat (first | exact Below.refl _ _ | assumption | refine nw_more ?_ _ _ | refine nw_alloc ?_ _ | refine nw_drew ?_ | refine nw_drewN ?_ _ | refine nw_set ?_ (by first | (simp; done) | (simp; omega) | omega) _))
      have hIY := HI4.out.on hbY
      have hwz := hIY.below.size
      have hw5 : Below w.heap.size w w5 := below_append hIY.below hIY.row hgrow
      have hU5 : OwnW w1.heap.size w5 (.slice up 64 uc) (lRow 64) := World.ownsRow.kept (HU4.out.below hbY) hgrow (own_other (HU4.out.below hbY) HR1.out (Nat.le_refl _))
      have hY8 := HB84.out.below hbY
      have h85 := hY8.grown hgrow (not_own hIY.row hY8 (by decide))
      have hB5 := hIY.box.grown hgrow (not_own hIY.row hIY.box (by decide))
      have hA5 := hIY.ask.grown hgrow (not_own hIY.row hIY.ask (by decide))
      have hRY := HRD.out.below hbY
      have hRD5 : RdI w3.heap.size w5 v4 [⟨1073741824, v', lRow 64⟩] := ⟨World.ownsRow.kept hRY.row hgrow (own_apart hRY.row hIY.row (by decide)), fun x hx => World.ownsRow.kept (hRY.each x hx) hgrow (own_other (hRY.each x hx) HR1.out (by omega))⟩
      have hV5 : WsAt w5 V (lRow 64 ++ [⟨0, { data := #[97] }, { data := #[] }, false⟩]) :=
        OwnW.at (B := w.heap.size) (by unfold OwnW; rw [List.length_append, lRow_length, wCells_append]; exact hown) (by rw [List.length_append, lRow_length]; decide) (fun x hx => by
          rcases List.mem_append.1 hx with hx | hx
          · exact lRow_small x hx
          · obtain rfl := List.mem_singleton.1 hx; exact ⟨by decide, by decide⟩)
      have hv5 : WsAt w5 (.slice q 64 qc) (lRow 64) := OwnW.at (B := w.heap.size) (by unfold OwnW; rw [lRow_length]; exact hkeep) (by rw [lRow_length]; omega) lRow_small
      have hu5 : WsAt w5 (.slice up 64 uc) (lRow 64) := hU5.at (by rw [lRow_length]; omega) lRow_small
      have hew := hRD5.each _ (List.mem_singleton.2 rfl)
      dsimp only at hew
      have hw5' : WsAt w5 v' (lRow 64) := hew.at (by rw [lRow_length]; omega) lRow_small
      obtain ⟨vp, vc, ev'⟩ := hew.slice
      rw [lRow_length] at ev'
      subst ev'
      obtain ⟨g4, cp4, rfl, hg4, k0, k1⟩ := hRD5.one
      dsimp only at k0 k1
      obtain ⟨gV, cV, rfl⟩ := Joins.ownsRow_form hown (by omega)
      have HV5 := Lib.hid hV5
      have Hv5 := Lib.hid hv5
      have Hu5 := Lib.hid hu5
      have Hw5 := Lib.hid hw5'
      have HBW := Lib.hid hw5
      have z0 := h85.cell 0
      have z1 := h85.cell 1
      have zl : Lt w2.heap.size w5.heap.size := h85.lt
      have y0 := hB5.cell 0
      have y1 := hB5.cell 1
      have yl : Lt (w.heap.size + 1) w5.heap.size := hB5.lt
      have a2 := hA5.cell 2
      have al : Lt w.heap.size w5.heap.size := hA5.lt
      simp only [List.getElem?_toArray, List.getElem?_cons_succ, List.getElem?_cons_zero] at z0 z1 y0 y1 a2
      have hnd : decide ((0 : Int) ≤ (nn : Int)) = true := decide_eq_true (by omega)
      clear hU5 hY8 h85 hB5 hA5 hRY hRD5 hV5 hv5 hu5 hew hw5' hown hgrow hkeep hbY hIY hwz hw5 hY x0 x1 xl HI4 HU4 HB84 HRD HROW HR1 HWS
      go_wp2_with fail
      refine (bytes_any w5 1 _ _ HV5.out).mono ?_
      rw [lRow_not]
      rintro e w6 ⟨rfl, hb⟩
      obtain ⟨n6, es6, rfl⟩ := below_more hb
      clear hb HV5
      simp only [Bool.false_eq_true, if_false]
      go_upto_region 13 with (fail)
      (refine wp_region_quiet_more (by kernel_rfl) (by kernel_rfl) ?_; (repeat (first | go_big_quiet_skip | quiet_step ((first | (go_at_call 8; exact Calls.more_same_int _ rfl (num17_any _ _)) | (go_at_call 11; exact Calls.more_of (eqRecord_same _ _ _ _ (lRow 64) (Hu5.out.below (by (repeat (first | exact Below.refl _ _ | assumption | refine nw_more ?_ _ _ | refine nw_alloc ?_ _ | refine nw_drew ?_ | refine nw_drewN ?_ _ | refine nw_set ?_ (by first | (simp; done) | (simp; omega) | omega) _)))) (Hv5.out.below (by (repeat (first | exact Below.refl _ _ | assumption | refine nw_more ?_ _ _ | refine nw_alloc ?_ _ | refine nw_drew ?_ | refine nw_drewN ?_ _ | refine nw_set ?_ (by first | (simp; done) | (simp; omega) | omega) _)))))) | (go_at_call 11; exact Calls.more_of (eqRecord_same _ _ _ _ (lRow 64) (Hw5.out.below (by (repeat (first | exact Below.refl _ _ | assumption | refine nw_more ?_ _ _ | refine nw_alloc ?_ _ | refine nw_drew ?_ | refine nw_drewN ?_ _ | refine nw_set ?_ (by first | (simp; done) | (simp; omega) | omega) _)))) (Hv5.out.below (by (repeat (first | exact Below.refl _ _ | assumption | refine nw_more ?_ _ _ | refine nw_alloc ?_ _ | refine nw_drew ?_ | refine nw_drewN ?_ _ | refine nw_set ?_ (by first | (simp; done) | (simp; omega) | omega) _)))))) | (go_at_call 12; exact Calls.more_of (wakes17_any _)))))); refine wpQuiet_nil ?_; intro _ hw'; obtain ⟨⟨nq, esq⟩, hw''⟩ := hw'; subst hw''; dsimp only)
      go_wp2
      go_ret
      refine ⟨rfl, ?_⟩
      have hb5 := HBW.out
      (repeat (first | exact Below.refl _ _ | assumption | refine nw_more ?_ _ _ | refine nw_alloc ?_ _ | refine nw_drew ?_ | refine nw_drewN ?_ _ | refine nw_set ?_ (by first | (simp; done) | (simp; omega) | omega) _))
end Go.Proofs.Ytaelgappabecgaa
