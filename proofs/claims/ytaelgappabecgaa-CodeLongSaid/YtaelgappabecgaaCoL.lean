/- Contract: Read. No condition. -/
import Derived.Test.YtaelgappabecgaaCoK
import Derived.Test.YtaelgappabecgaaCoHv
namespace Go.Proofs.Ytaelgappabecgaa
open Go.RowKit

theorem firstP_le {S : List ByteArray} {run n : Nat} {r : Int × List Wr} {m : Nat} (h : firstP S run n = some (r, m)) : m ≤ S.length ∧ (0 < m) ∧ rOk r.1 r.2 = true := by
  have hb := joinP_bounds 116 0 S []
  unfold firstP at h
  split at h
  · cases h
  · rename_i r0 hr0
    obtain ⟨hok, hrb⟩ := takeP_ok hr0
    split at h
    · rename_i he
      simp only [Option.some.injEq, Prod.mk.injEq] at h
      obtain ⟨rfl, rfl⟩ := h
      refine ⟨by omega, ?_, hok⟩
      have hl := congrArg List.length he
      rw [secs_len] at hl
      have := rBytes_len hok
      have hn : 0 < nParts (rBytes r0.1 r0.2) := by unfold nParts; omega
      rw [List.length_take] at hl
      omega
    · cases h
/-- The records' cells. -/
def rvCells : List Rv → List Value
  | [] => []
  | x :: r => .int .i64 x.c :: x.v :: rvCells r
theorem rvCells_length (P : List Rv) : (rvCells P).length = P.length * 2 := by
  induction P with
  | nil => rfl
  | cons x r ih => simp [rvCells, ih]; omega
theorem rvCells_append (P Q : List Rv) : rvCells (P ++ Q) = rvCells P ++ rvCells Q := by
  induction P with
  | nil => rfl
  | cons x r ih => simp [rvCells, ih]
theorem rvCells_at (P : List Rv) (i : Nat) (h : i < P.length) : (rvCells P)[i * 2]? = some (.int .i64 (P.getD i default).c) ∧ (rvCells P)[i * 2 + 1]? = some (P.getD i default).v := by
  induction P generalizing i with
  | nil => simp at h
  | cons x r ih =>
    cases i with
    | zero => simp [rvCells]
    | succ i =>
      have := ih i (by simpa using h)
      rw [show (i + 1) * 2 = i * 2 + 1 + 1 by omega]
      simpa [rvCells, List.getD] using this
/-- A row of records that the call owns; what each of them holds. -/
def OwnR (B : Nat) (w : World) (v : Value) (P : List Rv) : Prop := w.ownsRow B 34 2 v P.length (rvCells P)
theorem OwnR.below {B : Nat} {w w' : World} {v : Value} {P : List Rv} (h : OwnR B w v P) (hb : Below w.heap.size w w') : OwnR B w' v P := own_below h hb
theorem OwnR.nil (B : Nat) (w : World) : OwnR B w (.slice none 0 0) [] := World.ownsRow_nil _ _ _ _
theorem OwnR.slice {B : Nat} {w : World} {v : Value} {P : List Rv} (h : OwnR B w v P) : ∃ p c, v = .slice p P.length c := by
  rcases h.2 with ⟨rfl, h0⟩ | ⟨g, c, cur, rfl, -⟩
  · exact ⟨none, 0, by rw [h0]⟩
  · exact ⟨_, _, rfl⟩
theorem OwnR.at {B : Nat} {w : World} {v : Value} {P : List Rv} (h : OwnR B w v P) (hl : P.length ≤ 140737488355328) (he : ∀ x ∈ P, WsAt w x.v x.l) : RcAt w v P := by
  refine ⟨hl, ?_, he⟩
  rcases h.2 with ⟨rfl, h0⟩ | ⟨g, cap, cur, rfl, hb, hg, hc, hm, hs, ht⟩
  · exact ⟨none, 0, by rw [h0], fun i hi => by omega⟩
  · refine ⟨some ⟨g, 0, none⟩, cap, rfl, fun i hi => ⟨g, 0, rfl, (Array.getElem?_eq_some_iff.1 hg).1, ?_⟩⟩
    rw [Nat.zero_add, h.cellAt _ (by omega), h.cellAt _ (by omega)]
    exact rvCells_at P i hi
/-- The records read so far: their row, the rows of their writes. -/
structure RdI (B : Nat) (w : World) (v : Value) (P : List Rv) : Prop where
  row : OwnR B w v P
  each : ∀ x ∈ P, OwnW B w x.v x.l
theorem RdI.below {B : Nat} {w w' : World} {v : Value} {P : List Rv} (h : RdI B w v P) (hb : Below w.heap.size w w') : RdI B w' v P := ⟨h.row.below hb, fun x hx => (h.each x hx).below hb⟩
/-- One record more. -/
theorem RdI.snoc {B : Nat} {w w' : World} {v v' : Value} {P : List Rv} {x : Rv} (h : RdI B w v P) (hx : OwnW B w x.v x.l) (ho : w'.ownsRow B 34 2 v' (P.length + 1) (rvCells P ++ [.int .i64 x.c, x.v])) (hg : w.grownBy w' v.ownBlock) : RdI B w' v' (P ++ [x]) := by
  refine ⟨?_, fun y hy => ?_⟩
  · unfold OwnR
    rw [rvCells_append, List.length_append]
    exact ho
  · have hy2 : OwnW B w y.v y.l := by
      rcases List.mem_append.1 hy with hy | hy
      · exact h.each y hy
      · obtain rfl := List.mem_singleton.1 hy; exact hx
    exact World.ownsRow.kept hy2 hg (own_apart hy2 h.row (by decide))
end Go.Proofs.Ytaelgappabecgaa
