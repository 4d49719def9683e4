/-
  The walk of RefsPlays.
-/
import Derived.BigQuiet
import Derived.Deep.RegionHeld3
import Derived.Test.YtojmhkdlaalifaaRefV
namespace Go.Proofs.Ytojmhkdlaalifaa
open Go.RowKit
set_option linter.unusedVariables false
set_option linter.unusedSimpArgs false

/-- both counters, with what was added to them -/
structure PlS (w W : World) (B2 px gx q N : Nat) (v : Value) (l : List Int) : Prop where
  bel : Below w.heap.size w W
  cx : Cnt W w.heap.size px gx (lstR12 N (keepR12 N l))
  ry : RRef12 W B2 q v N (keepR12 N l)
  lo : w.heap.size ≤ B2 ∧ px < B2 ∧ gx < B2 ∧ B2 ≤ W.heap.size
theorem PlS.later {w W W' : World} {B2 px gx q N : Nat} {v : Value} {l : List Int} (h : PlS w W B2 px gx q N v l) (hb : Below W.heap.size W W') : PlS w W' B2 px gx q N v l :=
  ⟨h.bel.trans (hb.mono h.bel.size), h.cx.later hb, h.ry.later hb, h.lo.1, h.lo.2.1, h.lo.2.2.1, Nat.le_trans h.lo.2.2.2 hb.size⟩
/-- x has item k added, y not yet -/
structure PlX (w W : World) (B2 px gx q N : Nat) (v : Value) (l l2 : List Int) : Prop where
  bel : Below w.heap.size w W
  cx : Cnt W w.heap.size px gx (lstR12 N (keepR12 N l2))
  ry : RRef12 W B2 q v N (keepR12 N l)
  lo : w.heap.size ≤ B2 ∧ px < B2 ∧ gx < B2 ∧ B2 ≤ W.heap.size
theorem PlS.addx {w W : World} {B2 px gx q N : Nat} {v : Value} {l : List Int} (x : Int) (h : PlS w W B2 px gx q N v l) (hl : l.length ≤ 100000) :
    Calls Try.prog 10 #[.pointer (some ⟨px, 0, none⟩), .int .i64 x] W fun e w' => e = .returned (.tuple #[.int .i64 (addR12 N l x), .int .i64 (addE12 N x)]) ∧ PlX w w' B2 px gx q N v l (l ++ [x]) :=
  (Add12_any x W h.cx hl).mono fun e w' ⟨h1, h2, h3⟩ => ⟨h1, h.bel.trans (h3.below h.cx.hg.low), h2, h.ry.kept h3 h.lo.2.2.1, h.lo.1, h.lo.2.1, h.lo.2.2.1, by rw [h3.size]; exact h.lo.2.2.2⟩
theorem PlX.addy {w W : World} {B2 px gx q N : Nat} {v : Value} {l : List Int} (x : Int) (h : PlX w W B2 px gx q N v l (l ++ [x])) (hl : l.length ≤ 100000) :
    Calls Try.prog 11 #[.pointer (some ⟨q, 0, none⟩), .int .i64 x] W fun e w' => ∃ v', e = .returned (.tuple #[.int .i64 (addR12 N l x), .int .i64 (addE12 N x)]) ∧ PlS w w' B2 px gx q N v' (l ++ [x]) :=
  (refAdd12_any x W h.ry h.lo.2.2.2 hl).mono fun e w' ⟨v', h1, h2, h3⟩ => ⟨v', h1, h.bel.trans (h3.mono h.lo.1), h.cx.below h3 h.lo.2.1 h.lo.2.2.1, h2, h.lo.1, h.lo.2.1, h.lo.2.2.1, Nat.le_trans h.lo.2.2.2 h3.size⟩
theorem PlS.cntx {w W : World} {B2 px gx q N : Nat} {v : Value} {l : List Int} (x : Int) (h : PlS w W B2 px gx q N v l) :
    Calls Try.prog 12 #[.pointer (some ⟨px, 0, none⟩), .int .i64 x] W fun e w' => e = .returned (.int .i64 (occ12 (keepR12 N l) x : Int)) ∧ w' = W := by
  have := Count12_any x W (Own12.of_cnt h.cx)
  rw [cntAt_occ] at this
  exact this.mono fun e w' ⟨h1, h2⟩ => ⟨h1, h2.symm⟩
theorem PlS.cnty {w W : World} {B2 px gx q N : Nat} {v : Value} {l : List Int} (x : Int) (h : PlS w W B2 px gx q N v l) (hl : l.length ≤ 100000) :
    Calls Try.prog 13 #[.pointer (some ⟨q, 0, none⟩), .int .i64 x] W fun e w' => e = .returned (.int .i64 (occ12 (keepR12 N l) x : Int)) ∧ w' = W :=
  (refCount12_any x W h.ry (by have := keepR12_le N l; omega)).mono fun e w' ⟨h1, h2⟩ => ⟨h1, h2.symm⟩

/-- the end: both counters, y's list -/
structure PlF (w W : World) (B2 px gx q N : Nat) (A5 : Option Addr) (n5 c5 : Nat) (l : List Int) : Prop where
  st : PlS w W B2 px gx q N (.slice A5 n5 c5) l
  len : (keepR12 N l).length = n5
theorem PlF.later {w W W' : World} {B2 px gx q N : Nat} {A5 : Option Addr} {n5 c5 : Nat} {l : List Int} (h : PlF w W B2 px gx q N A5 n5 c5 l) (hb : Below W.heap.size W W') : PlF w W' B2 px gx q N A5 n5 c5 l := ⟨h.st.later hb, h.len⟩
theorem PlF.facts {w W : World} {B2 px gx q N : Nat} {A5 : Option Addr} {n5 c5 : Nat} {l : List Int} (h : PlF w W B2 px gx q N A5 n5 c5 l) : W.cell? ⟨q, 1, none⟩ = some (.slice A5 n5 c5) := h.st.ry.cell1
theorem PlF.own {w W : World} {B2 px gx q N : Nat} {A5 : Option Addr} {n5 c5 : Nat} {l : List Int} (h : PlF w W B2 px gx q N A5 n5 c5 l) : Own12 W (.pointer (some ⟨px, 0, none⟩)) (some ⟨gx, 0, none⟩) N (lstR12 N (keepR12 N l)) := by
  have := Own12.of_cnt h.st.cx
  rwa [lstR12_length] at this
theorem PlF.of {w W : World} {B2 px gx q N : Nat} {v : Value} {l : List Int} (h : PlS w W B2 px gx q N v l) : ∃ A5 n5 c5, v = .slice A5 n5 c5 ∧ PlF w W B2 px gx q N A5 n5 c5 l := by
  obtain ⟨A, c, rfl, _⟩ := h.ry.ints
  exact ⟨A, _, c, rfl, h, rfl⟩

section
variable {w W : World} {B2 px gx q N : Nat} {A5 : Option Addr} {n5 c5 : Nat} {l : List Int} (h : PlF w W B2 px gx q N A5 n5 c5 l) (hl : l.length ≤ 100000) (hN : N ≤ 65536)
include h
theorem PlF.lenx : Calls Try.prog 14 #[.pointer (some ⟨px, 0, none⟩)] W fun e w' => e = .returned (.int .i64 (N : Int)) ∧ W = w' := Len12_any W h.own
theorem PlF.listx : Calls Try.prog 16 #[.pointer (some ⟨px, 0, none⟩)] W fun e w' => ∃ A c, e = .returned (.slice A N c) ∧ Ints w' A N c (lstR12 N (keepR12 N l)) ∧ PlF w w' B2 px gx q N A5 n5 c5 l :=
  (List12_any W h.own).mono fun e w' ⟨A, c, h1, h2, h3, _⟩ => ⟨A, c, h1, h2, h.later h3⟩
theorem PlF.fromx (m : Int) : Calls Try.prog 19 #[.pointer (some ⟨px, 0, none⟩), .int .i64 m] W fun e w' => ∃ A c, e = .returned (.slice A (fromR12 (lstR12 N (keepR12 N l)) m N).length c) ∧ Ints w' A (fromR12 (lstR12 N (keepR12 N l)) m N).length c (fromR12 (lstR12 N (keepR12 N l)) m N) ∧ PlF w w' B2 px gx q N A5 n5 c5 l :=
  (From12_any m W h.own).mono fun e w' ⟨A, k, c, h1, h2, h3, _⟩ => by
    obtain rfl := h2.len
    exact ⟨A, c, h1, h2, h.later h3⟩
include hl hN
theorem PlF.listy : Calls Try.prog 17 #[.pointer (some ⟨q, 0, none⟩)] W fun e w' => ∃ A c, e = .returned (.slice A N c) ∧ Ints w' A N c (lstR12 N (keepR12 N l)) ∧ PlF w w' B2 px gx q N A5 n5 c5 l ∧ Below W.heap.size W w' :=
  (refList12_any W h.st.ry hN (Nat.le_trans (keepR12_le _ _) hl) (fun x hx => keepR12_mem hx)).mono fun e w' ⟨A, c, h1, h2, h3, _⟩ => ⟨A, c, h1, h2, h.later h3, h3⟩
theorem PlF.totx : Calls Try.prog 18 #[.pointer (some ⟨px, 0, none⟩)] W fun e w' => e = .returned (.int .i64 (n5 : Int)) ∧ W = w' := by
  have := Total12_any W h.own (sumR12_small (Nat.le_trans (keepR12_le _ _) hl) hN)
  rwa [sum_keep, h.len] at this
theorem PlF.fromy (m : Int) : Calls Try.prog 20 #[.pointer (some ⟨q, 0, none⟩), .int .i64 m] W fun e w' => ∃ A c, e = .returned (.slice A (fromR12 (lstR12 N (keepR12 N l)) m N).length c) ∧ Ints w' A (fromR12 (lstR12 N (keepR12 N l)) m N).length c (fromR12 (lstR12 N (keepR12 N l)) m N) ∧ PlF w w' B2 px gx q N A5 n5 c5 l ∧ Below W.heap.size W w' :=
  (refFrom12_any m W h.st.ry hN (Nat.le_trans (keepR12_le _ _) hl) (fun x hx => keepR12_mem hx)).mono fun e w' ⟨A, k, c, h1, h2, h3, _⟩ => by
    obtain rfl := h2.len
    exact ⟨A, c, h1, h2, h.later h3, h3⟩
end

/-- the region at the end, in a state of its own: all that it calls -/
structure PlC (w : World) (B2 px gx q N : Nat) (A5 : Option Addr) (n5 c5 : Nat) (m : Int) (l L D : List Int) (nd : Nat) : Prop where
  lenx : ∀ W, PlF w W B2 px gx q N A5 n5 c5 l → Calls Try.prog 14 #[.pointer (some ⟨px, 0, none⟩)] W fun e w' => e = .returned (.int .i64 (N : Int)) ∧ W = w'
  listx : ∀ W, PlF w W B2 px gx q N A5 n5 c5 l → Calls Try.prog 16 #[.pointer (some ⟨px, 0, none⟩)] W fun e w' => ∃ A c, e = .returned (.slice A N c) ∧ Ints w' A N c L ∧ PlF w w' B2 px gx q N A5 n5 c5 l
  listy : ∀ W, PlF w W B2 px gx q N A5 n5 c5 l → Calls Try.prog 17 #[.pointer (some ⟨q, 0, none⟩)] W fun e w' => ∃ A c, e = .returned (.slice A N c) ∧ Ints w' A N c L ∧ PlF w w' B2 px gx q N A5 n5 c5 l ∧ Below W.heap.size W w'
  totx : ∀ W, PlF w W B2 px gx q N A5 n5 c5 l → Calls Try.prog 18 #[.pointer (some ⟨px, 0, none⟩)] W fun e w' => e = .returned (.int .i64 (n5 : Int)) ∧ W = w'
  fromx : ∀ W, PlF w W B2 px gx q N A5 n5 c5 l → Calls Try.prog 19 #[.pointer (some ⟨px, 0, none⟩), .int .i64 m] W fun e w' => ∃ A c, e = .returned (.slice A nd c) ∧ Ints w' A nd c D ∧ PlF w w' B2 px gx q N A5 n5 c5 l
  fromy : ∀ W, PlF w W B2 px gx q N A5 n5 c5 l → Calls Try.prog 20 #[.pointer (some ⟨q, 0, none⟩), .int .i64 m] W fun e w' => ∃ A c, e = .returned (.slice A nd c) ∧ Ints w' A nd c D ∧ PlF w w' B2 px gx q N A5 n5 c5 l ∧ Below W.heap.size W w'
  same : ∀ W A1 c1 A2 c2, PlF w W B2 px gx q N A5 n5 c5 l → Ints W A1 N c1 L → Ints W A2 N c2 L → Calls Try.prog 15 #[.slice A1 N c1, .slice A2 N c2] W fun e w' => e = .returned (.bool true) ∧ PlF w w' B2 px gx q N A5 n5 c5 l
  same2 : ∀ W A1 c1 A2 c2, PlF w W B2 px gx q N A5 n5 c5 l → Ints W A1 nd c1 D → Ints W A2 nd c2 D → Calls Try.prog 15 #[.slice A1 nd c1, .slice A2 nd c2] W fun e w' => e = .returned (.bool true) ∧ PlF w w' B2 px gx q N A5 n5 c5 l
  lives : ∀ W, PlF w W B2 px gx q N A5 n5 c5 l → Calls Try.prog 9 #[] W fun e w' => e = .returned (.bool true) ∧ PlF w w' B2 px gx q N A5 n5 c5 l
theorem PlC.mk_ {w : World} {B2 px gx q N : Nat} {A5 : Option Addr} {n5 c5 : Nat} (m : Int) {l : List Int} (hl : l.length ≤ 100000) (hN : N ≤ 65536) : ∃ L D nd, PlC w B2 px gx q N A5 n5 c5 m l L D nd :=
  ⟨lstR12 N (keepR12 N l), fromR12 (lstR12 N (keepR12 N l)) m N, _, fun W h => h.lenx, fun W h => h.listx, fun W h => h.listy hl hN, fun W h => h.totx hl hN, fun W h => h.fromx m, fun W h => h.fromy hl hN m,
    fun W A1 c1 A2 c2 h h1 h2 => (Same_same A1 A2 _ c1 c2 _ W h1 h2).mono fun e w' ⟨h3, h4⟩ => ⟨h3, h.later h4⟩,
    fun W A1 c1 A2 c2 h h1 h2 => (Same_same A1 A2 _ c1 c2 _ W h1 h2).mono fun e w' ⟨h3, h4⟩ => ⟨h3, h.later h4⟩,
    fun W h => (lives12_any W).mono fun e w' ⟨h1, h2⟩ => ⟨h1, h.later h2⟩⟩

set_option maxRecDepth 100000 in
set_option maxHeartbeats 6400000 in
theorem plays_neg (nn least : Int) (A : Option Addr) (n c : Nat) (l : List Int) (w : World) (hk : nn < 0) (h : Ints w A n c l) :
    Calls Try.prog 3 #[.int .i64 nn, .slice A n c, .int .i64 least] w fun e w' => e = .returned (.bool true) ∧ Below w.heap.size w w' := by
  have hle := h.le
  have hcap := h.cap
  have hmost := h.most
  have LV : Hid (∀ W, Below w.heap.size w W → Calls Try.prog 9 #[] W fun e w' => e = .returned (.bool true) ∧ Below w.heap.size w w') := fun W hW => (lives12_any W).mono fun e w' ⟨h1, h2⟩ => ⟨h1, hW.trans (h2.mono hW.size)⟩
  clear h
  have d1 : decide ((2000 : Int) < nn) = false := by simp; omega
  have NX : Hid (Calls Try.prog 7 #[.int .i64 nn] w fun e w' => e = .returned (.tuple #[.pointer none, .int .i64 2]) ∧ w = w') := New12_bad nn w (by omega)
  have NY : Hid (Calls Try.prog 8 #[.int .i64 nn] w fun e w' => e = .returned (.tuple #[.pointer none, .int .i64 2]) ∧ w = w') := refNew12_bad nn w (by omega)
  by_cases hn : n ≤ 200
  · have dl : decide ((200 : Int) < (n : Int)) = false := by simp; omega
    go_enter Try.func3, Try.ntmps3
    go_wp2_with (first
      | (go_at_call 7; (with_reducible refine (NX.out).mono ?_); rintro e w' ⟨rfl, rfl⟩)
      | (go_at_call 8; (with_reducible refine (NY.out).mono ?_); rintro e w' ⟨rfl, rfl⟩)
      | (go_at_call 9; (with_reducible refine (LV.out _ (Below.refl _ _)).mono ?_); rintro e w5 ⟨rfl, hb5⟩))
    go_ret
    exact ⟨rfl, hb5⟩
  · have dl : decide ((200 : Int) < (n : Int)) = true := by simp; omega
    go_enter Try.func3, Try.ntmps3
    go_wp2_with (first
      | (go_at_call 7; (with_reducible refine (NX.out).mono ?_); rintro e w' ⟨rfl, rfl⟩)
      | (go_at_call 8; (with_reducible refine (NY.out).mono ?_); rintro e w' ⟨rfl, rfl⟩)
      | (go_at_call 9; (with_reducible refine (LV.out _ (Below.refl _ _)).mono ?_); rintro e w5 ⟨rfl, hb5⟩))
    go_ret
    exact ⟨rfl, hb5⟩

set_option maxRecDepth 100000 in
set_option maxHeartbeats 6400000 in
theorem plays_many (nn least : Int) (A : Option Addr) (n c : Nat) (l : List Int) (w : World) (hk : 65536 < nn) (h : Ints w A n c l) :
    Calls Try.prog 3 #[.int .i64 nn, .slice A n c, .int .i64 least] w fun e w' => e = .returned (.bool true) ∧ Below w.heap.size w w' := by
  have hle := h.le
  have hcap := h.cap
  have hmost := h.most
  have LV : Hid (∀ W, Below w.heap.size w W → Calls Try.prog 9 #[] W fun e w' => e = .returned (.bool true) ∧ Below w.heap.size w w') := fun W hW => (lives12_any W).mono fun e w' ⟨h1, h2⟩ => ⟨h1, hW.trans (h2.mono hW.size)⟩
  clear h
  have d1 : decide ((2000 : Int) < nn) = true := by simp; omega
  have d2 : decide (nn ≤ 65536) = false := by simp; omega
  have NX : Hid (Calls Try.prog 7 #[.int .i64 nn] w fun e w' => e = .returned (.tuple #[.pointer none, .int .i64 2]) ∧ w = w') := New12_bad nn w (by omega)
  have NY : Hid (Calls Try.prog 8 #[.int .i64 nn] w fun e w' => e = .returned (.tuple #[.pointer none, .int .i64 2]) ∧ w = w') := refNew12_bad nn w (by omega)
  by_cases hn : n ≤ 200
  · have dl : decide ((200 : Int) < (n : Int)) = false := by simp; omega
    go_enter Try.func3, Try.ntmps3
    go_wp2_with (first
      | (go_at_call 7; (with_reducible refine (NX.out).mono ?_); rintro e w' ⟨rfl, rfl⟩)
      | (go_at_call 8; (with_reducible refine (NY.out).mono ?_); rintro e w' ⟨rfl, rfl⟩)
      | (go_at_call 9; (with_reducible refine (LV.out _ (Below.refl _ _)).mono ?_); rintro e w5 ⟨rfl, hb5⟩))
    go_ret
    exact ⟨rfl, hb5⟩
  · have dl : decide ((200 : Int) < (n : Int)) = true := by simp; omega
    go_enter Try.func3, Try.ntmps3
    go_wp2_with (first
      | (go_at_call 7; (with_reducible refine (NX.out).mono ?_); rintro e w' ⟨rfl, rfl⟩)
      | (go_at_call 8; (with_reducible refine (NY.out).mono ?_); rintro e w' ⟨rfl, rfl⟩)
      | (go_at_call 9; (with_reducible refine (LV.out _ (Below.refl _ _)).mono ?_); rintro e w5 ⟨rfl, hb5⟩))
    go_ret
    exact ⟨rfl, hb5⟩

set_option maxRecDepth 100000 in
set_option maxHeartbeats 6400000 in
theorem plays_few (N : Nat) (least : Int) (A : Option Addr) (n c : Nat) (l : List Int) (w : World) (hk : N ≤ 2000) (h : Ints w A n c l) :
    Calls Try.prog 3 #[.int .i64 (N : Int), .slice A n c, .int .i64 least] w fun e w' => e = .returned (.bool true) ∧ Below w.heap.size w w' := by
  have hle := h.le
  have hcap := h.cap
  have hmost := h.most
  have LV : Hid (∀ W, Below w.heap.size w W → Calls Try.prog 9 #[] W fun e w' => e = .returned (.bool true) ∧ Below w.heap.size w w') := fun W hW => (lives12_any W).mono fun e w' ⟨h1, h2⟩ => ⟨h1, hW.trans (h2.mono hW.size)⟩
  have d1 : decide ((2000 : Int) < (N : Int)) = false := by simp; omega
  have NX : Hid (Calls Try.prog 7 #[.int .i64 (N : Int)] w fun e w' => ∃ p g, e = .returned (.tuple #[.pointer (some ⟨p, 0, none⟩), .int .i64 0]) ∧ Cnt w' w.heap.size p g (List.replicate N 0) ∧ Below w.heap.size w w') := New12_good N w (by omega)
  have NY : Hid (∀ W, Calls Try.prog 8 #[.int .i64 (N : Int)] W fun e w' => ∃ q, e = .returned (.tuple #[.pointer (some ⟨q, 0, none⟩), .int .i64 0]) ∧ RRef12 w' W.heap.size q (.slice none 0 0) N [] ∧ Below W.heap.size W w') := fun W => refNew12_good N W (by omega)
  by_cases hn : n ≤ 200
  · have dl : decide ((200 : Int) < (n : Int)) = false := by simp; omega
    have ST : Hid (∀ w1 w2 px gx q, Cnt w1 w.heap.size px gx (List.replicate N 0) → Below w.heap.size w w1 → RRef12 w2 w1.heap.size q (.slice none 0 0) N [] → Below w1.heap.size w1 w2 → PlS w w2 w1.heap.size px gx q N (.slice none 0 0) []) := fun w1 w2 px gx q h1 h2 h3 h4 =>
      ⟨h2.trans (h4.mono h2.size), by rw [show keepR12 N [] = [] from rfl, lstR12_nil]; exact h1.later h4, h3, h2.size, h1.plt, h1.glt, h4.size⟩
    have HI := Lib.hid h
    have hln := h.len
    have FIN : Hid (l.take n = l) := by show _ = _; rw [← hln, List.take_length]
    clear h
    go_enter Try.func3, Try.ntmps3
    go_wp2_with (first
      | (go_at_call 7; (with_reducible refine (NX.out).mono ?_); rintro e w1 ⟨px, gx, rfl, hC1, hb1⟩)
      | (go_at_call 8; (with_reducible refine (NY.out w1).mono ?_); rintro e w2 ⟨q, rfl, hR2, hb2⟩; have HS2 := Lib.hid (ST.out _ _ _ _ _ hC1 hb1 hR2 hb2); clear hC1 hb1 hR2 hb2))
    clear NX NY ST
    obtain ⟨B2, hB2⟩ : ∃ B2, w1.heap.size = B2 := ⟨_, rfl⟩
    rw [hB2] at HS2
    clear hB2
    go_loopw [11] (fun i wr => ∃ k : Nat, k ≤ n ∧ i = .int .i64 k ∧ Hid (∃ v, PlS w wr B2 px gx q N v (l.take k))) (fun i _ => n - (intOf i).toNat)
    case atStart => exact ⟨0, by omega, rfl, _, HS2⟩
    case round =>
      obtain ⟨k, hk, rfl, hS⟩ := hrel
      obtain ⟨v, hS⟩ := hS.out
      by_cases hlt : k < n
      · obtain ⟨b, off, hA, _, hc⟩ := HI.out.row.lit (by rw [i64s_length]; omega)
        have ck0 := hc k _ (i64s_at l k (by omega))
        have hlb : b < w.heap.size := cell_lt ck0
        have ck := (hS.bel.cell (p := ⟨b, off + k, none⟩) hlb).trans ck0
        have CK : Hid (∀ W, Below w.heap.size w W → W.cell? ⟨b, off + k, none⟩ = some (.int .i64 (l[k]'(by omega)))) := fun W hW => (hW.cell (p := ⟨b, off + k, none⟩) hlb).trans ck0
        have tk : l.take (k + 1) = l.take k ++ [l[k]'(by omega)] := List.take_succ_eq_append_getElem (by omega)
        have HT := Lib.hid tk
        have k200 : (l.take k).length ≤ 99999 := by rw [List.length_take]; omega
        clear tk hc ck0
        generalize l[k]'(by omega) = x at *
        generalize hlk : l.take k = lk at *
        have HLK := Lib.hid hlk
        have AX : Hid (Calls Try.prog 10 #[.pointer (some ⟨px, 0, none⟩), .int .i64 x] wr _) := hS.addx x (by omega)
        have AY : Hid (∀ W, PlX w W B2 px gx q N v lk (lk ++ [x]) → Calls Try.prog 11 #[.pointer (some ⟨q, 0, none⟩), .int .i64 x] W _) := fun W h => h.addy x (by omega)
        have CX : Hid (∀ W v', PlS w W B2 px gx q N v' (lk ++ [x]) → Calls Try.prog 12 #[.pointer (some ⟨px, 0, none⟩), .int .i64 x] W _) := fun W v' h => h.cntx x
        have CY : Hid (∀ W v', PlS w W B2 px gx q N v' (lk ++ [x]) → Calls Try.prog 13 #[.pointer (some ⟨q, 0, none⟩), .int .i64 x] W _) := fun W v' h => h.cnty x (by rw [List.length_append, List.length_singleton]; omega)
        generalize (occ12 (keepR12 N (lk ++ [x])) x : Int) = oc at *
        generalize addR12 N lk x = rr at *
        generalize addE12 N x = ee at *
        clear hlk k200 HS2 hS
        subst hA
        go_wp2_with (first
          | (go_at_call 10; (with_reducible refine (AX.out).mono ?_); rintro e w5 ⟨rfl, hS5⟩; have ck5 := CK.out _ hS5.bel; have HS5 := Lib.hid hS5; clear hS5)
          | (go_at_call 11; (with_reducible refine (AY.out _ HS5.out).mono ?_); rintro e w6 ⟨v6, rfl, hS6⟩; have ck6 := CK.out _ hS6.bel; have HS6 := Lib.hid hS6; clear hS6 HS5))
        go_quiet (first
          | (go_at_call 12; refine Calls.quiet_of_same (CX.out _ _ (HS6.out.later (below_drewN (Below.refl _ _) _))))
          | (go_at_call 13; refine Calls.quiet_of_same (CY.out _ _ (HS6.out.later (below_drewN (Below.refl _ _) _)))))
        go_wp2
        go_roundw
        case rel => exact ⟨k + 1, by omega, by go_num, v6, by rw [HT.out]; exact HS6.out.later (below_drewN (Below.refl _ _) _)⟩
        case measure => simp [intOf]; omega
      · obtain rfl : k = n := by omega
        rw [FIN.out] at hS
        obtain ⟨A5, n5, c5, rfl, hF⟩ := PlF.of hS
        have hF0 : PlF w wr.drew B2 px gx q N A5 n5 c5 l := hF.later (Below.refl _ _).drew
        obtain ⟨L, D, nd, hCC⟩ := PlC.mk_ (w := w) (B2 := B2) (px := px) (gx := gx) (q := q) (N := N) (A5 := A5) (n5 := n5) (c5 := c5) least (l := l) (by omega) (by omega)
        have CC := Lib.hid hCC
        clear hCC hS HI FIN HS2
        have hf := hF.facts
        have hf0 := hF0.facts
        go_wp2
        go_region_held3 (fun W => W.cell? ⟨q, 1, none⟩ = some (.slice A5 n5 c5))
          (assumption)
          (first
          | (go_at_call 14; (with_reducible refine (CC.out.lenx _ (by assumption)).mono ?_); rintro e w' ⟨rfl, rfl⟩)
          | (go_at_call 16; (with_reducible refine (CC.out.listx _ (by assumption)).mono ?_); rintro e w7 ⟨A7, c7, rfl, hI7, hF7⟩; have hf7 := hF7.facts; have HI7 := Lib.hid hI7; clear hI7)
          | (go_at_call 17; (with_reducible refine (CC.out.listy _ hF7).mono ?_); rintro e w8 ⟨A8, c8, rfl, hI8, hF8, hk8⟩; have hf8 := hF8.facts; have HI8 := Lib.hid hI8; have HI9 := Lib.hid (HI7.out.below hk8); clear hI8 hk8)
          | (go_at_call 15; first
              | ((with_reducible refine (CC.out.same _ _ _ _ _ hF8 HI9.out HI8.out).mono ?_); rintro e w9 ⟨rfl, hF9⟩; have hf9 := hF9.facts)
              | ((with_reducible refine (CC.out.same2 _ _ _ _ _ hF11 HI12.out HI11.out).mono ?_); rintro e w12 ⟨rfl, hF12⟩; have hf12 := hF12.facts))
          | (go_at_call 18; (with_reducible refine (CC.out.totx _ hF9).mono ?_); rintro e w' ⟨rfl, rfl⟩)
          | (go_at_call 19; (with_reducible refine (CC.out.fromx _ hF9).mono ?_); rintro e w10 ⟨A10, c10, rfl, hI10, hF10⟩; have hf10 := hF10.facts; have HI10 := Lib.hid hI10; clear hI10)
          | (go_at_call 20; (with_reducible refine (CC.out.fromy _ hF10).mono ?_); rintro e w11 ⟨A11, c11, rfl, hI11, hF11, hk11⟩; have hf11 := hF11.facts; have HI11 := Lib.hid hI11; have HI12 := Lib.hid (HI10.out.below hk11); clear hI11 hk11)
          | (go_at_call 9; (with_reducible refine (CC.out.lives _ hF12).mono ?_); rintro e w13 ⟨rfl, hF13⟩; have hf13 := hF13.facts))
        all_goals go_wp2
        all_goals go_ret
        all_goals exact ⟨rfl, hF13.st.bel⟩
  · have dl : decide ((200 : Int) < (n : Int)) = true := by simp; omega
    clear h
    go_enter Try.func3, Try.ntmps3
    go_wp2_with (first
      | (go_at_call 7; (with_reducible refine (NX.out).mono ?_); rintro e w1 ⟨px, gx, rfl, hC1, hb1⟩; clear hC1)
      | (go_at_call 8; (with_reducible refine (NY.out w1).mono ?_); rintro e w2 ⟨q, rfl, hR2, hb2⟩; have hb3 := hb1.trans (hb2.mono hb1.size); clear hb1 hR2 hb2)
      | (go_at_call 9; (with_reducible refine (LV.out _ hb3).mono ?_); rintro e w5 ⟨rfl, hb5⟩))
    go_ret
    exact ⟨rfl, hb5⟩

set_option maxRecDepth 100000 in
set_option maxHeartbeats 6400000 in
theorem plays_cut (nn least : Int) (A : Option Addr) (n c : Nat) (l : List Int) (w : World) (N : Nat) (hk : 2000 < nn ∧ nn ≤ 65536) (hN : nn % 2000 = (N : Int)) (h : Ints w A n c l) :
    Calls Try.prog 3 #[.int .i64 nn, .slice A n c, .int .i64 least] w fun e w' => e = .returned (.bool true) ∧ Below w.heap.size w w' := by
  have hle := h.le
  have hcap := h.cap
  have hmost := h.most
  have LV : Hid (∀ W, Below w.heap.size w W → Calls Try.prog 9 #[] W fun e w' => e = .returned (.bool true) ∧ Below w.heap.size w w') := fun W hW => (lives12_any W).mono fun e w' ⟨h1, h2⟩ => ⟨h1, hW.trans (h2.mono hW.size)⟩
  have d1 : decide ((2000 : Int) < nn) = true := by simp; omega
  have d2 : decide (nn ≤ 65536) = true := by simp; omega
  have hN2 : nn.tmod 2000 = (N : Int) := by rw [Int.tmod_eq_emod_of_nonneg (by omega)]; exact hN
  have hN3 : N ≤ 2000 := by omega
  have NX : Hid (Calls Try.prog 7 #[.int .i64 (N : Int)] w fun e w' => ∃ p g, e = .returned (.tuple #[.pointer (some ⟨p, 0, none⟩), .int .i64 0]) ∧ Cnt w' w.heap.size p g (List.replicate N 0) ∧ Below w.heap.size w w') := New12_good N w (by omega)
  have NY : Hid (∀ W, Calls Try.prog 8 #[.int .i64 (N : Int)] W fun e w' => ∃ q, e = .returned (.tuple #[.pointer (some ⟨q, 0, none⟩), .int .i64 0]) ∧ RRef12 w' W.heap.size q (.slice none 0 0) N [] ∧ Below W.heap.size W w') := fun W => refNew12_good N W (by omega)
  by_cases hn : n ≤ 200
  · have dl : decide ((200 : Int) < (n : Int)) = false := by simp; omega
    have ST : Hid (∀ w1 w2 px gx q, Cnt w1 w.heap.size px gx (List.replicate N 0) → Below w.heap.size w w1 → RRef12 w2 w1.heap.size q (.slice none 0 0) N [] → Below w1.heap.size w1 w2 → PlS w w2 w1.heap.size px gx q N (.slice none 0 0) []) := fun w1 w2 px gx q h1 h2 h3 h4 =>
      ⟨h2.trans (h4.mono h2.size), by rw [show keepR12 N [] = [] from rfl, lstR12_nil]; exact h1.later h4, h3, h2.size, h1.plt, h1.glt, h4.size⟩
    have HI := Lib.hid h
    have hln := h.len
    have FIN : Hid (l.take n = l) := by show _ = _; rw [← hln, List.take_length]
    clear h
    go_enter Try.func3, Try.ntmps3
    go_wp2_with (first
      | (go_at_call 7; (with_reducible refine (NX.out).mono ?_); rintro e w1 ⟨px, gx, rfl, hC1, hb1⟩)
      | (go_at_call 8; (with_reducible refine (NY.out w1).mono ?_); rintro e w2 ⟨q, rfl, hR2, hb2⟩; have HS2 := Lib.hid (ST.out _ _ _ _ _ hC1 hb1 hR2 hb2); clear hC1 hb1 hR2 hb2))
    clear NX NY ST
    obtain ⟨B2, hB2⟩ : ∃ B2, w1.heap.size = B2 := ⟨_, rfl⟩
    rw [hB2] at HS2
    clear hB2
    go_loopw [11] (fun i wr => ∃ k : Nat, k ≤ n ∧ i = .int .i64 k ∧ Hid (∃ v, PlS w wr B2 px gx q N v (l.take k))) (fun i _ => n - (intOf i).toNat)
    case atStart => exact ⟨0, by omega, rfl, _, HS2⟩
    case round =>
      obtain ⟨k, hk, rfl, hS⟩ := hrel
      obtain ⟨v, hS⟩ := hS.out
      by_cases hlt : k < n
      · obtain ⟨b, off, hA, _, hc⟩ := HI.out.row.lit (by rw [i64s_length]; omega)
        have ck0 := hc k _ (i64s_at l k (by omega))
        have hlb : b < w.heap.size := cell_lt ck0
        have ck := (hS.bel.cell (p := ⟨b, off + k, none⟩) hlb).trans ck0
        have CK : Hid (∀ W, Below w.heap.size w W → W.cell? ⟨b, off + k, none⟩ = some (.int .i64 (l[k]'(by omega)))) := fun W hW => (hW.cell (p := ⟨b, off + k, none⟩) hlb).trans ck0
        have tk : l.take (k + 1) = l.take k ++ [l[k]'(by omega)] := List.take_succ_eq_append_getElem (by omega)
        have HT := Lib.hid tk
        have k200 : (l.take k).length ≤ 99999 := by rw [List.length_take]; omega
        clear tk hc ck0
        generalize l[k]'(by omega) = x at *
        generalize hlk : l.take k = lk at *
        have HLK := Lib.hid hlk
        have AX : Hid (Calls Try.prog 10 #[.pointer (some ⟨px, 0, none⟩), .int .i64 x] wr _) := hS.addx x (by omega)
        have AY : Hid (∀ W, PlX w W B2 px gx q N v lk (lk ++ [x]) → Calls Try.prog 11 #[.pointer (some ⟨q, 0, none⟩), .int .i64 x] W _) := fun W h => h.addy x (by omega)
        have CX : Hid (∀ W v', PlS w W B2 px gx q N v' (lk ++ [x]) → Calls Try.prog 12 #[.pointer (some ⟨px, 0, none⟩), .int .i64 x] W _) := fun W v' h => h.cntx x
        have CY : Hid (∀ W v', PlS w W B2 px gx q N v' (lk ++ [x]) → Calls Try.prog 13 #[.pointer (some ⟨q, 0, none⟩), .int .i64 x] W _) := fun W v' h => h.cnty x (by rw [List.length_append, List.length_singleton]; omega)
        generalize (occ12 (keepR12 N (lk ++ [x])) x : Int) = oc at *
        generalize addR12 N lk x = rr at *
        generalize addE12 N x = ee at *
        clear hlk k200 HS2 hS
        subst hA
        go_wp2_with (first
          | (go_at_call 10; (with_reducible refine (AX.out).mono ?_); rintro e w5 ⟨rfl, hS5⟩; have ck5 := CK.out _ hS5.bel; have HS5 := Lib.hid hS5; clear hS5)
          | (go_at_call 11; (with_reducible refine (AY.out _ HS5.out).mono ?_); rintro e w6 ⟨v6, rfl, hS6⟩; have ck6 := CK.out _ hS6.bel; have HS6 := Lib.hid hS6; clear hS6 HS5))
        go_quiet (first
          | (go_at_call 12; refine Calls.quiet_of_same (CX.out _ _ (HS6.out.later (below_drewN (Below.refl _ _) _))))
          | (go_at_call 13; refine Calls.quiet_of_same (CY.out _ _ (HS6.out.later (below_drewN (Below.refl _ _) _)))))
        go_wp2
        go_roundw
        case rel => exact ⟨k + 1, by omega, by go_num, v6, by rw [HT.out]; exact HS6.out.later (below_drewN (Below.refl _ _) _)⟩
        case measure => simp [intOf]; omega
      · obtain rfl : k = n := by omega
        rw [FIN.out] at hS
        obtain ⟨A5, n5, c5, rfl, hF⟩ := PlF.of hS
        have hF0 : PlF w wr.drew B2 px gx q N A5 n5 c5 l := hF.later (Below.refl _ _).drew
        obtain ⟨L, D, nd, hCC⟩ := PlC.mk_ (w := w) (B2 := B2) (px := px) (gx := gx) (q := q) (N := N) (A5 := A5) (n5 := n5) (c5 := c5) least (l := l) (by omega) (by omega)
        have CC := Lib.hid hCC
        clear hCC hS HI FIN HS2
        have hf := hF.facts
        have hf0 := hF0.facts
        go_wp2
        go_region_held3 (fun W => W.cell? ⟨q, 1, none⟩ = some (.slice A5 n5 c5))
          (assumption)
          (first
          | (go_at_call 14; (with_reducible refine (CC.out.lenx _ (by assumption)).mono ?_); rintro e w' ⟨rfl, rfl⟩)
          | (go_at_call 16; (with_reducible refine (CC.out.listx _ (by assumption)).mono ?_); rintro e w7 ⟨A7, c7, rfl, hI7, hF7⟩; have hf7 := hF7.facts; have HI7 := Lib.hid hI7; clear hI7)
          | (go_at_call 17; (with_reducible refine (CC.out.listy _ hF7).mono ?_); rintro e w8 ⟨A8, c8, rfl, hI8, hF8, hk8⟩; have hf8 := hF8.facts; have HI8 := Lib.hid hI8; have HI9 := Lib.hid (HI7.out.below hk8); clear hI8 hk8)
          | (go_at_call 15; first
              | ((with_reducible refine (CC.out.same _ _ _ _ _ hF8 HI9.out HI8.out).mono ?_); rintro e w9 ⟨rfl, hF9⟩; have hf9 := hF9.facts)
              | ((with_reducible refine (CC.out.same2 _ _ _ _ _ hF11 HI12.out HI11.out).mono ?_); rintro e w12 ⟨rfl, hF12⟩; have hf12 := hF12.facts))
          | (go_at_call 18; (with_reducible refine (CC.out.totx _ hF9).mono ?_); rintro e w' ⟨rfl, rfl⟩)
          | (go_at_call 19; (with_reducible refine (CC.out.fromx _ hF9).mono ?_); rintro e w10 ⟨A10, c10, rfl, hI10, hF10⟩; have hf10 := hF10.facts; have HI10 := Lib.hid hI10; clear hI10)
          | (go_at_call 20; (with_reducible refine (CC.out.fromy _ hF10).mono ?_); rintro e w11 ⟨A11, c11, rfl, hI11, hF11, hk11⟩; have hf11 := hF11.facts; have HI11 := Lib.hid hI11; have HI12 := Lib.hid (HI10.out.below hk11); clear hI11 hk11)
          | (go_at_call 9; (with_reducible refine (CC.out.lives _ hF12).mono ?_); rintro e w13 ⟨rfl, hF13⟩; have hf13 := hF13.facts))
        all_goals go_wp2
        all_goals go_ret
        all_goals exact ⟨rfl, hF13.st.bel⟩
  · have dl : decide ((200 : Int) < (n : Int)) = true := by simp; omega
    clear h
    go_enter Try.func3, Try.ntmps3
    go_wp2_with (first
      | (go_at_call 7; (with_reducible refine (NX.out).mono ?_); rintro e w1 ⟨px, gx, rfl, hC1, hb1⟩; clear hC1)
      | (go_at_call 8; (with_reducible refine (NY.out w1).mono ?_); rintro e w2 ⟨q, rfl, hR2, hb2⟩; have hb3 := hb1.trans (hb2.mono hb1.size); clear hb1 hR2 hb2)
      | (go_at_call 9; (with_reducible refine (LV.out _ hb3).mono ?_); rintro e w5 ⟨rfl, hb5⟩))
    go_ret
    exact ⟨rfl, hb5⟩

theorem refsplays_walk (nn : Int) (A : Option Addr) (n c : Nat) (l : List Int) (least : Int) (w : World) (_hn : -9223372036854775808 ≤ nn ∧ nn ≤ 9223372036854775807) (h : Ints w A n c l) (_hl : ∀ x ∈ l, -9223372036854775808 ≤ x ∧ x ≤ 9223372036854775807) (_hm : -9223372036854775808 ≤ least ∧ least ≤ 9223372036854775807) :
    Calls Try.prog 3 #[.int .i64 nn, .slice A n c, .int .i64 least] w fun e w' => e = .returned (.bool true) ∧ Below w.heap.size w w' := by
  by_cases h1 : nn < 0
  · exact plays_neg nn least A n c l w h1 h
  · by_cases h2 : 65536 < nn
    · exact plays_many nn least A n c l w h2 h
    · obtain ⟨N, rfl⟩ := Int.eq_ofNat_of_zero_le (show 0 ≤ nn by omega)
      by_cases h3 : N ≤ 2000
      · exact plays_few N least A n c l w h3 h
      · exact plays_cut (N : Int) least A n c l w (N % 2000) ⟨by omega, by omega⟩ (by omega) h

end Go.Proofs.Ytojmhkdlaalifaa
