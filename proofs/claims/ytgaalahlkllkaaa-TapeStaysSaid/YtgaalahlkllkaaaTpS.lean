/- Contracts of the law's calls: a Sync alone; crashes in which nothing stays, all stays, nothing waits. No condition. -/
import Derived.Test.YtgaalahlkllkaaaTpW
namespace Go.Proofs.Ytgaalahlkllkaaa
open Go.RowKit

theorem own_len {B : Nat} {w : World} {p : Option Addr} {n c : Nat} {S : List ByteArray} (h : OwnS B w (.slice p n c) S) : n = S.length := by
  obtain ⟨q, qc, e⟩ := h.form
  simp only [Value.slice.injEq] at e
  exact e.2.1
theorem own_lenP {B : Nat} {w : World} {p : Option Addr} {n c : Nat} {l : List Pt} (h : OwnP B w (.slice p n c) l) : n = l.length := by
  obtain ⟨q, qc, e⟩ := h.slice
  simp only [Value.slice.injEq] at e
  exact e.2.1
theorem Tb.put {B b : Nat} {w : World} {c0 c1 u v : Value} {S : List ByteArray} {l : List Pt} (hb : Blc w b 25 #[c0, c1]) (ho : OwnS B w u S) (hp : OwnP B w v l) : Tb B ((w.setCell ⟨b, 0, none⟩ u).setCell ⟨b, 1, none⟩ v) b u v S l := by
  have k1 := not_own ho hb (by decide)
  have k2 := not_own hp hb (by decide)
  refine ⟨?_, ownsRow_setCell_other (a := ⟨b, 1, none⟩) (ownsRow_setCell_other (a := ⟨b, 0, none⟩) ho k1 _) k1 _, ownsRow_setCell_other (a := ⟨b, 1, none⟩) (ownsRow_setCell_other (a := ⟨b, 0, none⟩) hp k2 _) k2 _⟩
  have := (hb.set 0 u).set 1 v
  simpa using this
/-- Sectors told, so many; nothing waits. -/
def TapeOut (w : World) (n : Nat) (S : List ByteArray) (e : Ending) (w' : World) : Prop := ∃ p c q d, e = .returned (.tuple #[.agg #[.slice p n c, .slice q 0 d], .int .i64 0]) ∧ OwnS w.heap.size w' (.slice p n c) S ∧ Below w.heap.size w w'
theorem sync_any (w : World) (us vs dv : Value) (S : List ByteArray) (l : List Pt) (n : Nat) (hn : S.length = n) (hok : TpOk S l) (hs : SsAt w us S) (hp : PsAt w vs l) (hD : DsAt w dv [⟨true, ⟨0, E0⟩⟩]) :
    Calls Try.prog 7 #[.agg #[us, vs], .int .i64 (-1), dv] w (TapeOut w n (setP S l)) := by
  subst hn
  refine (Play_any w us vs dv S l _ hok hs hp hD).mono ?_
  rintro e w' ⟨p, m, c, q, m2, d, rfl, h, hb⟩
  have h0 : playE S l [⟨true, ⟨0, E0⟩⟩] = 0 := rfl
  obtain ⟨h1, h2⟩ := h h0
  obtain rfl : m = S.length := (own_len h1).trans (setP_length l S)
  obtain rfl : m2 = 0 := own_lenP h2
  exact ⟨p, c, q, d, rfl, h1, hb⟩
theorem crash_tape {w : World} {S : List ByteArray} {n : Nat} (hn : S.length = n) {e : Ending} {w' : World} (h : CrashOut w S e w') : TapeOut w n S e w' := by
  subst hn
  obtain ⟨p, m, c, rfl, ho, hb⟩ := h
  obtain rfl : m = S.length := own_len ho
  exact ⟨p, c, none, 0, rfl, ho, hb⟩
theorem crash_lost (w : World) (us vs : Value) (S : List ByteArray) (l : List Pt) (n : Nat) (hn : S.length = n) (hok : TpOk S l) (hs : SsAt w us S) (hp : PsAt w vs l) :
    Calls Try.prog 10 #[.agg #[us, vs], .slice none 0 0] w (TapeOut w n S) :=
  (crash_any w us vs _ S l [] hok hs hp (fun x hx => by cases hx) (Nat.zero_le _) (fun X v' _ h => staying_none X v' l h)).mono fun _ _ h => crash_tape hn h
theorem crash_kept (w : World) (us vs : Value) (S : List ByteArray) (l : List Pt) (n kb kc : Nat) (hn : S.length = n) (hok : TpOk S l) (hs : SsAt w us S) (hp : PsAt w vs l) (hkb : kb < w.heap.size) (hk : w.cell? ⟨kb, 0, none⟩ = some (.int .i64 1)) :
    Calls Try.prog 10 #[.agg #[us, vs], .slice (some ⟨kb, 0, none⟩) 1 kc] w (TapeOut w n (setP S l)) :=
  (crash_any w us vs _ S l l hok hs hp (fun _ hx => hx) (Nat.le_refl _) (fun X v' hb h => staying_all X v' l h hok.many kb 0 kc (Nat.lt_of_lt_of_le hkb hb.size) ((hb.cell (p := ⟨kb, 0, none⟩) hkb).trans hk))).mono fun _ _ h => crash_tape ((setP_length l S).trans hn) h
theorem crash_same (w : World) (us kv : Value) (q : Option Addr) (d : Nat) (S : List ByteArray) (n : Nat) (hn : S.length = n) (hok : TpOk S []) (hs : SsAt w us S) :
    Calls Try.prog 10 #[.agg #[us, .slice q 0 d], kv] w (TapeOut w n S) :=
  (crash_any w us _ kv S [] [] hok hs (PsAt.nil w q d) (fun x hx => by cases hx) (Nat.zero_le _) (fun X v' _ h => by
    obtain ⟨p', c', e, -⟩ := h.slice
    rw [e]
    exact staying_nil X p' c' kv)).mono fun _ _ h => crash_tape hn h
theorem tapeOk_of {w : World} {S : List ByteArray} {l : List Pt} {n : Nat} {p q : Option Addr} {c m d : Nat} (hok : TpOk S l) (hs : SsAt w (.slice p n c) S) (hp : PsAt w (.slice q m d) l) :
    Calls Try.prog 9 #[.agg #[.slice p n c, .slice q m d]] w fun e w' => e = .returned (.bool true) ∧ Below w.heap.size w w' := rTape_ok w _ _ S l hok hs hp
end Go.Proofs.Ytgaalahlkllkaaa
