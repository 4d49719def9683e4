/-
  Joined: SlotMath, SupC, BitB, BitC, SealA, SealF.
-/
import Derived.Test.YtbeobbanppkmhaaGreatDoorJBlkC14
import Derived.Test.YtbeobbanppkmhaaGreatDoorJBlkC08
import Derived.Test.YtbeobbanppkmhaaGreatDoorJBlkC02
import Derived.Test.YtbeobbanppkmhaaGreatDoorJBlkC11
import Derived.Test.YtbeobbanppkmhaaGreatDoorJBlkC10
import Derived.WalkSpells
import Derived.WalkLawsBesides
import Derived.Test.YtbeobbanppkmhaaGreatDoorJBlkC06
import Derived.LoopTactic
/-
  Layer 10: an index of slots, its bytes, and back.
-/
namespace Go.Proofs.YtbeobbanppkmhaaGreatDoor
open Go.RowKit
set_option linter.unusedVariables false
set_option linter.unusedSimpArgs false

abbrev Slt := Int × Int × Int
def sltV (x : Slt) : List Int := [x.1, x.2.1, x.2.2]
def sltOk (x : Slt) : Bool := okP (slotS.zip (sltV x))
def sltE (x : Slt) : List UInt8 := encP (slotS.zip (sltV x))
def okS10 (l : List Slt) : Bool := decide (l.length ≤ 15) && l.all sltOk
def encS10 (l : List Slt) : List UInt8 := encN 4 l.length ++ ((l.map sltE).flatten ++ List.replicate (240 - 16 * l.length) 0)
def numS (b : List UInt8) : Nat := leN (b.take 4)
def sltAt10 (b : List UInt8) (i : Nat) : List UInt8 := (b.drop (4 + 16 * i)).take 16
def nums10 (s : List UInt8) : List Int := (partsN s slotS).map fun k : Nat => (k : Int)
def sltR (s : List UInt8) : Slt := ((nums10 s).getD 0 0, (nums10 s).getD 1 0, (nums10 s).getD 2 0)
def readS10 (b : List UInt8) : List Slt := (List.range (numS b)).map fun i => sltR (sltAt10 b i)
def formS (b : List UInt8) : Bool := decide (b.length = 244) && (decide (numS b ≤ 15) && zeroB (b.drop (4 + 16 * numS b)))
def readSE10 (b : List UInt8) : Int := if formS b = true then (if (List.range (numS b)).all (fun i => okR (sltAt10 b i) slotS) = true then 0 else 2) else 7
def readSL10 (b : List UInt8) : List Slt := if readSE10 b = 0 then readS10 b else []

end Go.Proofs.YtbeobbanppkmhaaGreatDoor

/-
  Layer 6's Put: the action that gathers the fields.
-/
namespace Go.Proofs.YtbeobbanppkmhaaGreatDoor
open Go.RowKit
set_option linter.unusedVariables false
set_option linter.unusedSimpArgs false

theorem info_fld : (Tryz.prog.info? 118).map (fun i => (i.zero, i.size, i.bytes)) = some (some (.agg #[.int .i64 0, .int .i64 0]), 2, 16) := by kernel_rfl

theorem below_of_own {B : Nat} {w w' : World} {r : Option Nat} (h : w.grownBy w' r) (hB : B ≤ w.heap.size) (hr : ∀ k, r = some k → B ≤ k) : Below B w w' :=
  ⟨h.os, h.tape, h.output, h.size, fun k hk => h.block k (by omega) (fun e => by have := hr k e.symm; omega)⟩

/-- the action adds one field -/
structure Added (W W' : World) (B q n : Nat) (l : List (Int × Int)) : Prop where
  bel : Below B W W'
  ptr : Ptrs W W'
  own : ∃ A c, W'.heap[q]? = some (.cells #[.slice A n c] 115 (0, 0)) ∧ W'.ownsRow B 118 2 (.slice A n c) n (flds l)

theorem added_end {w w2 : World} {B q n : Nat} {A A2 : Option Addr} {m c c2 : Nat} {l : List (Int × Int)} {x : Int} {v2 : Value} (hBq : B ≤ q) (hq : w2.heap[q]? = some (.cells #[.slice A m c] 115 (0, 0))) (hp : Ptrs w w2) (hb : Below B w w2)
    (ho : w2.ownsRow B 118 2 v2 n (flds l ++ [.int .i64 4, .int .i64 x])) (hv : v2 = .slice A2 n c2) : Added w (w2.setCell ⟨q, 0, none⟩ (.slice A2 n c2)) B q n (l ++ [(4, x)]) := by
  subst hv
  refine ⟨hb.setCell (p := ⟨q, 0, none⟩) hBq _, hp.trans (Ptrs.set hq (by decide) 0 _), A2, c2, one_setCell hq, ?_⟩
  have e : flds (l ++ [(4, x)]) = flds l ++ [.int .i64 4, .int .i64 x] := by simp [flds]
  rw [e]
  refine ownsRow_setCell_other ho (a := ⟨q, 0, none⟩) (fun e => ?_) _
  obtain ⟨_, cur, hc⟩ := own_apartS ho q e
  rw [hq] at hc
  injection hc with hc
  injection hc with _ h2 _
  exact absurd h2 (by decide)

set_option maxRecDepth 100000 in
set_option maxHeartbeats 800000 in
theorem pact_any (w : World) (p k q B : Nat) (x lo hi : Int) (A : Option Addr) (c n : Nat) (l : List (Int × Int)) (hx : w.cell? ⟨p, k, none⟩ = some (.int .i64 x)) (hl : l.length = n)
    (hq : w.heap[q]? = some (.cells #[.slice A n c] 115 (0, 0))) (ho : w.ownsRow B 118 2 (.slice A n c) n (flds l)) (hBq : B ≤ q) (hB : B ≤ w.heap.size) (hn : n ≤ 100) :
    Calls Tryz.prog 131 #[.pointer (some ⟨p, k, none⟩), .int .i64 lo, .int .i64 hi, .pointer (some ⟨q, 0, none⟩)] w fun e w' => e = .returned (.tuple #[]) ∧ Added w w' B q (n + 1) (l ++ [(4, x)]) := by
  have hc : w.cell? ⟨q, 0, none⟩ = some (.slice A n c) := by rw [cell_of_row w q 0 _ _ _ hq]; rfl
  have hfl : (l ++ [(4, x)]).length = n + 1 := by simp [hl]
  have HO := Lib.hid (fun W (hb : Below w.heap.size w W) => own_keptS ho (fun k h1 h2 => hb.block k h2))
  have HA := Lib.hid (own_apartS ho)
  have HQ := Lib.hid hq
  have HL := Lib.hid hl
  have HF := Lib.hid hfl
  have HW := Lib.hid (fun W (h : Below w.heap.size w W) => (h.block q (block_lt hq)).trans hq)
  have hcA : (w.alloc (.cells #[.int .i64 4, .int .i64 x] 118)).cell? ⟨q, 0, none⟩ = some (.slice A n c) := by
    rw [cell_of_row _ q 0 _ _ _ (HW.out _ ((Below.refl _ _).alloc (Nat.le_refl _) _))]; rfl
  clear ho hq hl hfl
  go_enter Tryz.func131, Tryz.ntmps131
  go_wp2
  go_region_law (first
    | (refine step_append_rowG _ rfl (.tmp 7) (.tmp 12) 115 rfl B 118 2 _ 16 Tryz.underlying115 info_fld rfl (by omega) (.slice A n c) n (flds l) rfl (HO.out _ (((Below.refl _ _).alloc (Nat.le_refl _) _).drew)) (by simp; omega) ⟨w.heap.size, 0, none⟩ [.int .i64 4, .int .i64 x] 1 1 rfl rfl (Row.of_block (t := 118) (fr := (0, 0)) (heap_alloc_new w _)) (by simp [Value.oneCell']) (by omega) (by omega) ?_
       intro v2 w2 hown2 hg2
       have hb1 : Below w.heap.size w (w.alloc (.cells #[.int .i64 4, .int .i64 x] 118)).drew := ((Below.refl _ _).alloc (Nat.le_refl _) _).drew
       have hne : ∀ k, (Value.slice A n c).ownBlock = some k → B ≤ k ∧ ∃ cur, w.heap[k]? = some (.cells cur 118 (0, 0)) := HA.out
       have hq2 := (hg2.out.block q (Nat.lt_of_lt_of_le (block_lt HQ.out) hb1.size) (fun e => by
         obtain ⟨_, cur, hcur⟩ := hne q e.symm
         have h3 := HQ.out
         rw [hcur] at h3
         injection h3 with h3
         injection h3 with _ h4 _
         exact absurd h4 (by decide))).trans (HW.out _ hb1)
       have HQ2 := Lib.hid hq2
       have HP2 : Hid (Ptrs w w2) := fun g cs fr e => by
         by_cases hgo : (Value.slice A n c).ownBlock = some g
         · obtain ⟨_, cur, hcur⟩ := hne g hgo
           rw [hcur] at e
           injection e with e
           injection e with _ e2 _
           exact absurd e2 (by decide)
         · have hlt := block_lt e
           exact (hg2.out.block g (Nat.lt_of_lt_of_le hlt hb1.size) (fun e2 => hgo e2.symm)).trans ((hb1.block g hlt).trans e)
       have HB2 : Hid (Below B w w2) := (hb1.mono hB).trans (below_of_own hg2.out (Nat.le_trans hB hb1.size) (fun k hk => (hne k hk).1))
       have hc2 : w2.cell? ⟨q, 0, none⟩ = some (.slice A n c) := by rw [cell_of_row w2 q 0 _ _ _ hq2]; rfl
       have hf2 := Lib.frozen_of_heap hq2 0
       clear hb1 hne hq2
       obtain ⟨A2, c2, hv2, h62, h63⟩ := ownsRow_form hown2.out
       rw [hv2]))
  all_goals go_wp2
  all_goals go_end0
  all_goals exact ⟨rfl, added_end hBq HQ2.out HP2.out HB2.out hown2.out hv2⟩

/-- the fields with their widths: the version, and the first k -/
def fl (f : Nat → Int) : Nat → List (Int × Int)
  | 0 => [(4, 1)]
  | k + 1 => fl f k ++ [(4, f k)]
theorem fl_length (f : Nat → Int) (k : Nat) : (fl f k).length = k + 1 := by
  induction k with
  | zero => rfl
  | succ k ih => simp [fl, ih]

/-- what Put's action keeps -/
structure PutI (w0 w : World) (p q B : Nat) (f : Nat → Int) (k : Nat) : Prop where
  bel : Below w0.heap.size w0 w
  sup : SupAt w p f
  low : B ≤ w.heap.size
  own : ∃ A c, w.heap[q]? = some (.cells #[.slice A (k + 1) c] 115 (0, 0)) ∧ w.ownsRow B 118 2 (.slice A (k + 1) c) (k + 1) (flds (fl f k))

theorem callF14 (args : Array Value) (W : World) : (callFunc 131 args).run Tryz.prog W = .ok (.enter 131 args) W := by kernel_rfl

theorem put_visit {w0 w : World} {p q B : Nat} {f : Nat → Int} (h0 : w0.heap.size ≤ B) (hBq : B ≤ q) (hpB : p < B) (h : PutI w0 w p q B f 0) :
    Calls Tryz.prog 80 #[.pointer (some ⟨p, 0, none⟩), .func (.func 131) #[] #[.pointer (some ⟨q, 0, none⟩)]] w fun e w' => e = .returned (.tuple #[]) ∧ PutI w0 w' p q B f 11 := by
  refine visit_any w p 131 (.pointer (some ⟨q, 0, none⟩)) (f 4) callF14 (fun k W => PutI w0 W p q B f k) (fun k W _ hI => hI.sup.cell (by omega)) ?_ ?_ h
  · intro k W W' hI hb
    obtain ⟨A, c, h1, h2⟩ := hI.own
    exact ⟨hI.bel.trans (hb.mono hI.bel.size), (hb.block p (block_lt hI.sup)).trans hI.sup, Nat.le_trans hI.low hb.size, A, c, (hb.block q (block_lt h1)).trans h1, own_keptS h2 (fun k _ hk => hb.block k hk)⟩
  · intro k W hk hI
    obtain ⟨A, c, h1, h2⟩ := hI.own
    refine (pact_any W p k q B (f k) _ _ A c (k + 1) (fl f k) (hI.sup.cell hk) (fl_length f k) h1 h2 hBq hI.low (by omega)).mono ?_
    rintro e W' ⟨rfl, hA⟩
    refine ⟨rfl, ⟨hI.bel.trans (hA.bel.mono h0), (hA.bel.block p hpB).trans hI.sup, Nat.le_trans hI.low hA.bel.size, hA.own⟩, hA.ptr⟩

end Go.Proofs.YtbeobbanppkmhaaGreatDoor

/-
  Layer 9: Put.
-/
namespace Go.Proofs.YtbeobbanppkmhaaGreatDoor
open Go.RowKit
set_option linter.unusedVariables false
set_option linter.unusedSimpArgs false

/-- the bytes after k of them have been made -/
def bitsP (l : List Int) (k : Nat) : List UInt8 := encN 4 l.length ++ (((List.range k).map fun j => UInt8.ofNat (fourB l j)) ++ List.replicate (240 - k) 0)
theorem bitsP_length (l : List Int) {k : Nat} (hk : k ≤ 240) : (bitsP l k).length = 244 := by simp [bitsP, encN_length]; omega
theorem bitsP_all (l : List Int) : bitsP l 240 = encBits l := by simp [bitsP, encBits]
theorem bitsP_zero (l : List Int) : bitsP l 0 = encN 4 l.length ++ List.replicate 240 0 := by simp [bitsP]
theorem bitsP_step (l : List Int) {k : Nat} (hk : k < 240) : (bitsP l k).set (4 + k) (UInt8.ofNat (fourB l k)) = bitsP l (k + 1) := by
  have e1 : 240 - k = (240 - (k + 1)) + 1 := by omega
  rw [bitsP, List.set_append_right _ _ (by rw [encN_length]; omega), encN_length, show 4 + k - 4 = k by omega, List.set_append_right _ _ (by simp), bitsP, List.range_succ, List.map_append, e1, List.replicate_succ]
  simp

set_option maxRecDepth 100000 in
set_option maxHeartbeats 800000 in
theorem BPut_good (A : Option Addr) (n c : Nat) (l : List Int) (w : World) (h : Ints w A n c l) (hr : okB9 l = true) :
    Calls Tryz.prog 100 #[.slice A n c] w fun e w' => ∃ g, e = .returned (.tuple #[.slice (some ⟨g, 0, none⟩) 244 244, .int .i64 0]) ∧ Own8 w' w.heap.size g (encBits l) ∧ Below w.heap.size w w' := by
  have R := Lib.hid (right_any9 A n c l w h true hr)
  have hl := h.len
  have h9 := (okB9_iff.1 hr).1
  rw [hl] at h9
  obtain ⟨i0, hi0, hz0, hz1, hz2⟩ := info_parts info_u8
  have C : Hid (∀ w1 : World, ∀ g0, Own8 w1 w.heap.size g0 (List.replicate 244 0) → Calls Tryz.prog 107 #[.slice (some ⟨g0, 0, none⟩) 244 244, .int .i64 0, .int .i64 4, .int .i64 (n : Int)] w1 fun e w' => e = .returned (.tuple #[.slice (some ⟨w1.heap.size, 0, none⟩) 244 244, .int .i64 0]) ∧ Own8 w' w1.heap.size w1.heap.size (bitsP l 0) ∧ Below w1.heap.size w1 w') := fun w1 g0 hO =>
    (Put_own _ 244 244 0 4 n _ w1 (hO.bytes (n := 244) List.length_replicate (by omega)) (by omega) (by decide) (by decide) (by decide) (by omega) (by simp [fitsB]; omega)).mono fun e w' ⟨h1, h2, h3⟩ => by
      refine ⟨h1, ?_, h3⟩
      rw [bitsP_zero, hl]
      rw [List.take_zero, List.nil_append, List.drop_replicate] at h2
      exact h2
  have J : Hid (∀ (W : World) (k : Nat), Below w.heap.size w W → k < 240 → Calls Tryz.prog 135 #[.slice A n c, .int .i64 (4 * (k : Int))] W fun e w' => e = .returned (.int .u8 (fourB l k : Int)) ∧ W = w') := fun W k hW hk => by
    have := join_any9 A n c l (4 * k) W (h.below hW) hr (by omega)
    rw [fourP_four] at this
    exact this
  have HF : Hid (∀ k, fourB l k < 256) := fun k => fourB_lt hr k
  have HA : Hid (bitsP l 240 = encBits l) := bitsP_all l
  clear h hr hl
  go_enter Tryz.func100, Tryz.ntmps100
  go_wp2_with (first
    | (go_at_call 134; (with_reducible refine (R.out).mono ?_); rintro e w' ⟨rfl, rfl⟩)
    | (at_make; refine wpList_make_full w rfl (.const (.int .i64 244)) (.const (.int .i64 244)) _ rfl w.heap.size 5 i0 _ 1 Tryz.underlying22 hi0 hz0 hz1 .i64 .i64 _ _ 244 rfl rfl rfl rfl (by rw [hz2]; omega) (by simp only [maxLen]; omega) (Nat.le_refl _) ?_; intro w1 hown1 hg1; have hb1 := below_of_grown hg1 (by simp); have HO1 := Lib.hid (own_zeros hown1 (Nat.le_refl _)); clear hown1)
    | (go_at_call 107; (with_reducible refine (C.out _ _ HO1.out).mono ?_); rintro e w2 ⟨rfl, hO2, hb2⟩; have hg2 := hb1.size))
  have hbel : Below w.heap.size w w2 := hb1.trans (hb2.mono hg1.size)
  have hgl : w.heap.size ≤ w1.heap.size := hg1.size
  have HO2 : Hid (Own8 w2 w.heap.size w1.heap.size (bitsP l 0)) := hO2.down hgl
  have HB2 := Lib.hid hbel
  clear hO2 hbel hb1 hb2 hg1 HO1 hg2
  generalize w1.heap.size = g at *
  clear hi0 hz0 hz1 hz2
  go_loopw [23] (fun i wr => ∃ k : Nat, k ≤ 240 ∧ i = .int .i64 k ∧ Hid (Own8 wr w.heap.size g (bitsP l k)) ∧ Hid (Below w.heap.size w wr)) (fun i _ => 240 - (intOf i).toNat)
  case atStart => exact ⟨0, by omega, rfl, HO2, HB2⟩
  case round =>
    clear HO2 HB2
    obtain ⟨k, hk, rfl, hO, hbel⟩ := hrel
    by_cases hlt : k < 240
    · have hbl := bitsP_length l hk
      have hc0 := hO.out.cell (j := 4 + k) (by omega)
      have hf0 := hO.out.free (4 + k)
      have hfk : fourB l k ≤ 255 := by have := HF.out k; omega
      have HS := Lib.hid (bitsP_step l hlt)
      have HT := Lib.hid (hO.out.set (4 + k) (fourB l k) (by omega))
      have hJ := Lib.hid (J.out wr k hbel.out hlt)
      generalize (bitsP l k)[4 + k] = old at *
      clear hbl
      generalize fourB l k = v at *
      go_wp2_with (go_at_call 135; (with_reducible refine (hJ.out).mono ?_); rintro e w' ⟨rfl, rfl⟩)
      go_roundw
      case rel => exact ⟨k + 1, by omega, by go_num, by have := HT.out; rw [HS.out] at this; exact this, hbel.out.setCell hgl _⟩
      case measure => simp [intOf]; omega
    · obtain rfl : k = 240 := by omega
      go_wp2
      go_ret2
      exact ⟨g, rfl, by rw [← HA.out]; exact hO.out, hbel.out⟩

/-! ### the document's example -/
end Go.Proofs.YtbeobbanppkmhaaGreatDoor

/-
  Layer 9: Read.
-/
namespace Go.Proofs.YtbeobbanppkmhaaGreatDoor
open Go.RowKit
set_option linter.unusedVariables false
set_option linter.unusedSimpArgs false

/-- what Get tells of the number of counts -/
theorem bits_get {l : List UInt8} (h : 4 ≤ l.length) : getE l 0 4 = 0 ∧ getN l 0 4 = (numB l : Int) := by
  have hr : roomE l.length 0 4 = 0 := by
    rcases roomE_cases l.length 0 4 with e | e | ⟨e, _⟩
    · simp [roomE, isW] at e; omega
    · simp [roomE, isW] at e; omega
    · exact e
  have hp : part l 0 4 = l.take 4 := rfl
  have hlt := leN_lt (l.take 4)
  rw [List.length_take, Nat.min_eq_left h] at hlt
  have e0 : getE l 0 4 = 0 := by
    rw [getE, if_pos hr, hp, if_neg (by omega)]
  exact ⟨e0, by rw [getN, if_pos e0, hp]; rfl⟩
theorem bits_get_short {l : List UInt8} (h : l.length < 4) : getE l 0 4 = 3 ∧ getN l 0 4 = 0 := by
  have hr : roomE l.length 0 4 = 3 := by simp [roomE, isW]; omega
  have e0 : getE l 0 4 = 3 := by rw [getE, if_neg (by rw [hr]; decide), hr]
  exact ⟨e0, by rw [getN, if_neg (by rw [e0]; decide)]⟩

theorem readBE9_cases (b : List UInt8) : (readBE9 b = 0 ∧ readBL9 b = readBits b ∧ b.length = 244 ∧ numB b ≤ 960 ∧ encBits (readBits b) = b) ∨ (readBE9 b = 7 ∧ readBL9 b = [] ∧ ¬ (b.length = 244 ∧ numB b ≤ 960 ∧ encBits (readBits b) = b)) := by
  by_cases h : b.length = 244 ∧ numB b ≤ 960 ∧ encBits (readBits b) = b
  · have e : readBE9 b = 0 := by rw [readBE9, if_pos h]
    exact .inl ⟨e, by rw [readBL9, if_pos e], h⟩
  · have e : readBE9 b = 7 := by rw [readBE9, if_neg h]
    exact .inr ⟨e, by rw [readBL9, if_neg (by rw [e]; decide)], h⟩

set_option maxRecDepth 100000 in
set_option maxHeartbeats 800000 in
/-- what ends early -/
theorem BRead_bad (A : Option Addr) (n c : Nat) (l : List UInt8) (w : World) (h : Bytes8 w A n c l) (hb : ¬ (n = 244 ∧ numB l ≤ 960)) :
    Calls Tryz.prog 47 #[.slice A n c] w fun e w' => e = .returned (.tuple #[.slice none 0 0, .int .i64 7]) ∧ Below w.heap.size w w' := by
  have hl := h.len
  have hn := h.le
  have G := Lib.hid (Get_any A n c l 0 4 w h (by omega))
  by_cases h4 : n < 4
  · obtain ⟨e1, e2⟩ := bits_get_short (l := l) (by omega)
    rw [e1, e2] at G
    clear h e1 e2 hb hl
    go_enter Tryz.func47, Tryz.ntmps47
    go_wp2_with (go_at_call 82; (with_reducible refine (G.out).mono ?_); rintro e w1 ⟨rfl, hb1⟩)
    go_ret2
    exact ⟨rfl, hb1⟩
  · obtain ⟨e1, e2⟩ := bits_get (l := l) (by omega)
    rw [e1, e2] at G
    clear h e1 e2 hl
    generalize numB l = N at *
    by_cases h9 : N ≤ 960
    · have hd : decide ((960 : Int) < (N : Int)) = false := by simp; omega
      have hne : ((n : Int) != 244) = true := by simp; omega
      clear hb
      go_enter Tryz.func47, Tryz.ntmps47
      go_wp2_with (go_at_call 82; (with_reducible refine (G.out).mono ?_); rintro e w1 ⟨rfl, hb1⟩)
      go_ret2
      exact ⟨rfl, hb1⟩
    · have hd : decide ((960 : Int) < (N : Int)) = true := by simp; omega
      clear hb
      go_enter Tryz.func47, Tryz.ntmps47
      go_wp2_with (go_at_call 82; (with_reducible refine (G.out).mono ?_); rintro e w1 ⟨rfl, hb1⟩)
      go_ret2
      exact ⟨rfl, hb1⟩

/-- the counts after k of them have been read -/
def bitsR (b : List UInt8) (N k : Nat) : List Int := ((List.range k).map fun i => (digB b i : Int)) ++ List.replicate (N - k) 0
theorem bitsR_length (b : List UInt8) {N k : Nat} (h : k ≤ N) : (bitsR b N k).length = N := by simp [bitsR]; omega
theorem bitsR_zero (b : List UInt8) (N : Nat) : bitsR b N 0 = List.replicate N 0 := by simp [bitsR]
theorem bitsR_all (b : List UInt8) : bitsR b (numB b) (numB b) = readBits b := by simp [bitsR, readBits]
theorem bitsR_step (b : List UInt8) {N k : Nat} (hk : k < N) : (bitsR b N k).set k (digB b k : Int) = bitsR b N (k + 1) := by
  have e1 : N - k = (N - (k + 1)) + 1 := by omega
  rw [bitsR, List.set_append_right _ _ (by simp), bitsR, List.range_succ, List.map_append, e1, List.replicate_succ]
  simp

theorem bit_and3 (n : Int) : bits .and .i64 n 3 = n % 4 := by
  have hm : (BitVec.ofInt 64 3).toNat = 2 ^ 2 - 1 := by decide
  have key : (BitVec.ofInt 64 n &&& BitVec.ofInt 64 3).toNat = (n % ((2 ^ 64 : Nat) : Int)).toNat % 2 ^ 2 := by
    rw [BitVec.toNat_and, BitVec.toNat_ofInt, hm, Nat.and_two_pow_sub_one_eq_mod]
  show IntKind.i64.wrap ((BitVec.ofInt 64 n &&& BitVec.ofInt 64 3).toNat : Nat) = n % 4
  rw [key, IntKind.wrap_i64]
  omega
theorem bit_dig (v j : Nat) (hv : v < 256) : bits .and .i64 (wrap64 ((v : Int) / 2 ^ (2 * j))) 3 = ((v / 4 ^ j % 4 : Nat) : Int) := by
  have e : ((v : Int) / 2 ^ (2 * j)) = ((v / 4 ^ j : Nat) : Int) := by
    rw [show (2 : Int) ^ (2 * j) = ((4 ^ j : Nat) : Int) by rw [Int.pow_mul]; norm_cast]
    exact (Int.natCast_ediv _ _).symm
  have hle : v / 4 ^ j ≤ v := Nat.div_le_self _ _
  rw [e, bit_and3]
  generalize v / 4 ^ j = y at *
  unfold wrap64
  omega

/-- what Read answers -/
def RdB (r : Bool) (l : List UInt8) (w' : World) (A' : Option Addr) (m c' : Nat) (x : Int) : Prop := (r = true → x = 0 ∧ Ints w' A' m c' (readBits l)) ∧ (r = false → x = 7 ∧ A' = none ∧ m = 0 ∧ c' = 0)

set_option maxRecDepth 100000 in
set_option maxHeartbeats 1600000 in
theorem BRead_good (A : Option Addr) (c : Nat) (l : List UInt8) (w : World) (h : Bytes8 w A 244 c l) (h9 : numB l ≤ 960) (r : Bool) (hr : decide (encBits (readBits l) = l) = r) :
    Calls Tryz.prog 47 #[.slice A 244 c] w fun e w' => ∃ A' m c' x, e = .returned (.tuple #[.slice A' m c', .int .i64 x]) ∧ Below w.heap.size w w' ∧ RdB r l w' A' m c' x := by
  have hl := h.len
  have G := Lib.hid (Get_any A 244 c l 0 4 w h (by omega))
  obtain ⟨e1, e2⟩ := bits_get (l := l) (by omega)
  rw [e1, e2] at G
  obtain ⟨i0, hi0, hz0, hz1, hz2⟩ := info_parts info_i64
  obtain ⟨b, off, rfl, hb, hcell⟩ := h.row.lit (by rw [u8s_length]; omega)
  have HC := Lib.hid hcell
  have HL := Lib.hid hl
  have HB := Lib.hid h
  have hcc := h.cap
  have HALL := Lib.hid (bitsR_all l)
  have HOK := Lib.hid (readBits_ok (b := l) h9)
  clear h hcell hl e1 e2
  generalize hN : numB l = N at *
  have HN := Lib.hid hN
  clear hN
  have hd : decide ((960 : Int) < (N : Int)) = false := by simp; omega
  go_enter Tryz.func47, Tryz.ntmps47
  go_wp2_with (first
    | (go_at_call 82; (with_reducible refine (G.out).mono ?_); rintro e w1 ⟨rfl, hb1⟩)
    | (at_make; refine wpList_make_full w1 rfl (.tmp 25) (.tmp 25) _ rfl w1.heap.size 3 i0 _ 1 Tryz.underlying34 hi0 hz0 hz1 .i64 .i64 _ _ N rfl rfl rfl rfl (by rw [hz2]; omega) (by simp only [maxLen]; omega) (Nat.le_refl _) ?_; intro w2 hown2 hg2; have hb2 := below_of_grown hg2 (by simp); have HO2 := Lib.hid (own_zerosI hown2 (Nat.le_refl _)); clear hown2))
  have HO3 : Hid (OwnI w2 w.heap.size w1.heap.size (bitsR l N 0)) := by rw [bitsR_zero]; exact ⟨hb1.size, HO2.out.blk⟩
  have hgl : w.heap.size ≤ w1.heap.size := hb1.size
  have hbel : Hid (Below w.heap.size w w2) := hb1.trans (hb2.mono hb1.size)
  clear HO2 hb1 hb2 hg2 hi0 hz0 hz1 hz2
  generalize w1.heap.size = g at *
  go_loopw [29] (fun i wr => ∃ k : Nat, k ≤ N ∧ i = .int .i64 k ∧ Hid (OwnI wr w.heap.size g (bitsR l N k)) ∧ Hid (Below w.heap.size w wr)) (fun i _ => N - (intOf i).toNat)
  case atStart => exact ⟨0, by omega, rfl, HO3, hbel⟩
  case round =>
    clear HO3 hbel
    obtain ⟨k, hk, rfl, hO, hbel⟩ := hrel
    by_cases hlt : k < N
    · have hbl := bitsR_length l hk
      have hc0 := hO.out.cell (j := k) (by omega)
      have hf0 := hO.out.free k
      have hj : 4 + k / 4 < l.length := by have := HL.out; omega
      have hc1 : wr.cell? ⟨b, off + (4 + k / 4), none⟩ = some (.int .u8 (l[4 + k / 4].toNat : Int)) := (hbel.out.cell (p := ⟨b, off + (4 + k / 4), none⟩) hb).trans (HC.out _ _ (u8s_at l _ hj))
      have HS := Lib.hid (bitsR_step l hlt)
      have HT := Lib.hid (hO.out.set k (digB l k : Int))
      generalize (bitsR l N k)[k] = old at *
      clear hbl
      have hv : bits .and .i64 (wrap64 ((l[4 + k / 4].toNat : Int) / 2 ^ (2 * (k % 4)))) 3 = (digB l k : Int) := by
        rw [bit_dig _ _ (UInt8.toNat_lt _), digB, List.getD_eq_getElem?_getD, List.getElem?_eq_getElem hj, Option.getD_some]
      generalize digB l k = d at *
      generalize l[4 + k / 4].toNat = v at *
      go_wp2
      go_roundw
      case rel => exact ⟨k + 1, by omega, by go_num, by have := HT.out; rw [HS.out] at this; exact this, hbel.out.setCell hgl _⟩
      case measure => simp [intOf]; omega
    · obtain rfl : k = N := by omega
      have hI := hO.out.ints (n := k) (bitsR_length l (Nat.le_refl k)) (by omega)
      have hR : bitsR l k k = readBits l := by exact HALL.out
      rw [hR] at hI
      have P := Lib.hid (BPut_good _ k k _ wr hI HOK.out)
      have hlb : l.length = 244 := HL.out
      have HI := Lib.hid hI
      have HE : Hid (∀ (W : World) (g' : Nat), Below wr.heap.size wr W → Own8 W wr.heap.size g' (encBits (readBits l)) → Calls Tryz.prog 84 #[.slice (some ⟨g', 0, none⟩) 244 244, .slice (some ⟨b, off, none⟩) 244 c] W fun e w' => e = .returned (.bool r) ∧ W = w') := fun W g' hW hO' =>
        bitEqual_any _ 244 244 _ _ 244 c l W (hO'.bytes (n := 244) (encBits_length _) (by omega)) (HB.out.below (hbel.out.trans (hW.mono hbel.out.size))) r hr
      clear hI hR hO
      cases r with
      | true =>
        go_wp2_with (first
          | (go_at_call 100; (with_reducible refine (P.out).mono ?_); rintro e w3 ⟨g', rfl, hO3, hb3⟩)
          | (go_at_call 84; (with_reducible refine (HE.out _ _ hb3 hO3).mono ?_); rintro e w4 ⟨rfl, rfl⟩))
        go_ret2
        exact ⟨_, _, _, _, rfl, hbel.out.trans (hb3.mono hbel.out.size), ⟨fun _ => ⟨rfl, HI.out.below hb3⟩, fun h => by cases h⟩⟩
      | false =>
        go_wp2_with (first
          | (go_at_call 100; (with_reducible refine (P.out).mono ?_); rintro e w3 ⟨g', rfl, hO3, hb3⟩)
          | (go_at_call 84; (with_reducible refine (HE.out _ _ hb3 hO3).mono ?_); rintro e w4 ⟨rfl, rfl⟩))
        go_ret2
        exact ⟨_, _, _, _, rfl, hbel.out.trans (hb3.mono hbel.out.size), ⟨(fun h => by cases h), fun _ => ⟨rfl, rfl, rfl, rfl⟩⟩⟩

theorem BRead_any (A : Option Addr) (n c : Nat) (l : List UInt8) (w : World) (h : Bytes8 w A n c l) :
    Calls Tryz.prog 47 #[.slice A n c] w fun e w' => ∃ A' m c', e = .returned (.tuple #[.slice A' m c', .int .i64 (readBE9 l)]) ∧ Ints w' A' m c' (readBL9 l) ∧ Below w.heap.size w w' := by
  have hl := h.len
  by_cases hb : n = 244 ∧ numB l ≤ 960
  · obtain ⟨rfl, h9⟩ := hb
    refine (BRead_good A c l w h h9 _ rfl).mono ?_
    rintro e w' ⟨A', m, c', x, rfl, hb, ht, hf⟩
    rcases readBE9_cases l with ⟨e0, e1, h1, h2, h3⟩ | ⟨e0, e1, h1⟩
    · obtain ⟨rfl, hI⟩ := ht (decide_eq_true h3)
      exact ⟨A', m, c', by rw [e0], by rw [e1]; exact hI, hb⟩
    · obtain ⟨rfl, rfl, rfl, rfl⟩ := hf (decide_eq_false fun h3 => h1 ⟨hl, h9, h3⟩)
      exact ⟨none, 0, 0, by rw [e0], by rw [e1]; exact Ints.nil _, hb⟩
  · refine (BRead_bad A n c l w h hb).mono ?_
    rintro e w' ⟨rfl, hbl⟩
    rcases readBE9_cases l with ⟨e0, e1, h1, h2, h3⟩ | ⟨e0, e1, h1⟩
    · exact absurd ⟨hl.symm.trans h1, h2⟩ hb
    · exact ⟨none, 0, 0, by rw [e0], by rw [e1]; exact Ints.nil _, hbl⟩

end Go.Proofs.YtbeobbanppkmhaaGreatDoor

/-
  Layer 4's small functions: isKind, isNumber, Salt, unless, stored, sum; the reference's Salt and known.
-/
namespace Go.Proofs.YtbeobbanppkmhaaGreatDoor
open Go.RowKit
set_option linter.unusedVariables false
set_option linter.unusedSimpArgs false

set_option maxRecDepth 100000 in
theorem isKind_any (x : Int) (w : World) (r : Bool) (hr : kindB x = r) :
    Calls Tryz.prog 105 #[.int .i64 x] w fun e w' => e = .returned (.bool r) ∧ w = w' := by
  subst hr
  go_enter Tryz.func105, Tryz.ntmps105
  go_wp2
  all_goals go_ret
  all_goals refine ⟨ret_bool ?_, rfl⟩
  all_goals (simp [kindB]; try omega)

set_option maxRecDepth 100000 in
theorem isNumber_any (x : Int) (w : World) (r : Bool) (hr : snumB x = r) :
    Calls Tryz.prog 106 #[.int .i64 x] w fun e w' => e = .returned (.bool r) ∧ w = w' := by
  subst hr
  go_enter Tryz.func106, Tryz.ntmps106
  go_wp2
  all_goals go_ret
  all_goals refine ⟨ret_bool ?_, rfl⟩
  all_goals (simp [snumB]; try omega)

set_option maxRecDepth 100000 in
theorem unless_any (b : Bool) (x : Int) (y : Int) (hy : (if b = true then 0 else x) = y) (w : World) :
    Calls Tryz.prog 147 #[.bool b, .int .i64 x] w fun e w' => e = .returned (.int .i64 y) ∧ w = w' := by
  cases b
  case' true => obtain rfl : 0 = y := hy
  case' false => obtain rfl : x = y := hy
  all_goals try clear hy
  all_goals go_enter Tryz.func147, Tryz.ntmps147
  all_goals go_wp2
  all_goals go_ret
  all_goals exact ⟨rfl, rfl⟩

set_option maxRecDepth 100000 in
theorem Salt_any (x : Int) (w : World) :
    Calls Tryz.prog 139 #[.int .i64 x] w fun e w' => e = .returned (.int .i64 (saltN x : Int)) ∧ w = w' := by
  by_cases h1 : x = 1
  · subst h1
    go_enter Tryz.func139, Tryz.ntmps139
    go_wp2
    go_ret
    exact ⟨rfl, rfl⟩
  by_cases h2 : x = 2
  · subst h2
    go_enter Tryz.func139, Tryz.ntmps139
    go_wp2
    go_ret
    exact ⟨rfl, rfl⟩
  by_cases h3 : x = 3
  · subst h3
    go_enter Tryz.func139, Tryz.ntmps139
    go_wp2
    go_ret
    exact ⟨rfl, rfl⟩
  by_cases h4 : x = 4
  · subst h4
    go_enter Tryz.func139, Tryz.ntmps139
    go_wp2
    go_ret
    exact ⟨rfl, rfl⟩
  · have q1 : (x == 1) = false := by simpa using h1
    have q2 : (x == 2) = false := by simpa using h2
    have q3 : (x == 3) = false := by simpa using h3
    have q4 : (x == 4) = false := by simpa using h4
    have E : Hid (saltN x = 0) := by simp [Hid, saltN, h1, h2, h3, h4]
    clear h1 h2 h3 h4
    go_enter Tryz.func139, Tryz.ntmps139
    go_wp2
    go_ret
    exact ⟨ret_int (by rw [E.out]; rfl), rfl⟩

set_option maxRecDepth 100000 in
theorem refKnown_any (k no : Int) (w : World) (r : Bool) (hr : knownB k no = r) :
    Calls Tryz.prog 112 #[.int .i64 k, .int .i64 no] w fun e w' => e = .returned (.bool r) ∧ w = w' := by
  subst hr
  go_enter Tryz.func112, Tryz.ntmps112
  go_wp2
  all_goals go_ret
  all_goals refine ⟨ret_bool ?_, rfl⟩
  all_goals (rw [Bool.eq_iff_iff]; simp [knownB, kindB, snumB]; try omega)

set_option maxRecDepth 100000 in
theorem refSalt_any (x : Int) (w : World) :
    Calls Tryz.prog 115 #[.int .i64 x] w fun e w' => e = .returned (.int .i64 (saltN x : Int)) ∧ Below w.heap.size w w' := by
  by_cases h0 : x < 0
  · have E : Hid (saltN x = 0) := by simp only [Hid, saltN]; rw [if_neg (by omega), if_neg (by omega), if_neg (by omega), if_neg (by omega)]
    go_enter Tryz.func115, Tryz.ntmps115
    go_wp2
    go_ret
    exact ⟨ret_int (by rw [E.out]; rfl), (Below.refl _ _).alloc (Nat.le_refl _) _⟩
  by_cases h5 : 4 < x
  · have E : Hid (saltN x = 0) := by simp only [Hid, saltN]; rw [if_neg (by omega), if_neg (by omega), if_neg (by omega), if_neg (by omega)]
    go_enter Tryz.func115, Tryz.ntmps115
    go_wp2
    go_ret
    exact ⟨ret_int (by rw [E.out]; rfl), (Below.refl _ _).alloc (Nat.le_refl _) _⟩
  rcases (show x = 0 ∨ x = 1 ∨ x = 2 ∨ x = 3 ∨ x = 4 by omega) with rfl | rfl | rfl | rfl | rfl
  all_goals clear h0 h5
  all_goals go_enter Tryz.func115, Tryz.ntmps115
  all_goals go_wp2
  all_goals go_ret
  all_goals exact ⟨rfl, (Below.refl _ _).alloc (Nat.le_refl _) _⟩

theorem getE_small (l : List UInt8) (i wd : Int) : 0 ≤ getE l i wd ∧ getE l i wd ≤ 3 := by
  unfold getE
  rcases roomE_cases l.length i wd with h | h | ⟨h, _⟩ <;> rw [h] <;> simp <;> split <;> omega

set_option maxRecDepth 100000 in
set_option maxHeartbeats 400000 in
theorem stored_any (A : Option Addr) (n c : Nat) (l : List UInt8) (i wd : Int) (w : World) (h : Bytes8 w A n c l) (hi : -9223372036854775808 ≤ i ∧ i ≤ 9223372036854775807) :
    Calls Tryz.prog 150 #[.slice A n c, .int .i64 i, .int .i64 wd] w fun e w' => e = .returned (.int .i64 (storedN l i wd)) ∧ Below w.heap.size w w' := by
  have G := Lib.hid (Get_any A n c l i wd w h hi)
  have hx := getE_small l i wd
  have E : Hid (storedN l i wd = if getE l i wd = 0 then getN l i wd else -1) := rfl
  clear h hi
  generalize getE l i wd = x at *
  generalize getN l i wd = y at *
  obtain ⟨hx0, hx3⟩ := hx
  by_cases h0 : x = 0
  · subst h0
    go_enter Tryz.func150, Tryz.ntmps150
    go_wp2_with (go_at_call 82; refine (G.out).mono ?_; rintro e w' ⟨rfl, hb⟩)
    go_ret
    exact ⟨ret_int (by rw [E.out]; rfl), hb⟩
  · have q : (x != 0) = true := by simpa using h0
    have E2 : Hid (storedN l i wd = -1) := by have := E.out; rw [if_neg h0] at this; exact this
    clear E h0
    go_enter Tryz.func150, Tryz.ntmps150
    go_wp2_with (go_at_call 82; refine (G.out).mono ?_; rintro e w' ⟨rfl, hb⟩)
    go_ret
    exact ⟨ret_int (by rw [E2.out]), hb⟩

theorem xor_salt (a b : Nat) (ha : a < 4294967296) (hb : b < 4294967296) : bits .xor .i64 (a : Int) (b : Int) = ((a ^^^ b : Nat) : Int) := i64_xor_nat a b (by omega) (by omega)

set_option maxRecDepth 100000 in
set_option maxHeartbeats 400000 in
theorem sum_any (A : Option Addr) (n c : Nat) (l : List UInt8) (k : Int) (w : World) (h : Bytes8 w A n c l) (hn : 252 ≤ n) :
    Calls Tryz.prog 108 #[.slice A n c, .int .i64 k] w fun e w' => e = .returned (.int .i64 (sumN l k : Int)) ∧ Below w.heap.size w w' := by
  have hc := h.cap
  have hm := h.most
  have hB : Bytes8 w A 252 c (l.take 252) := ⟨by rw [List.length_take, h.len]; omega, by omega, hm, by have := h.row.take 252; rwa [u8s_take] at this⟩
  have S := Lib.hid (Sum_one A 252 c (l.take 252) w hB)
  have T := Lib.hid (fun W => Salt_any k W)
  have hx := xor_salt (Crc.sum (l.take 252)) (saltN k) (Crc.sum_lt _) (saltN_lt k)
  have E : Hid (Crc.sum (l.take 252) ^^^ saltN k = sumN l k) := rfl
  clear hB
  generalize Crc.sum (l.take 252) = a at *
  generalize saltN k = b at *
  generalize a ^^^ b = z at *
  clear h
  go_enter Tryz.func108, Tryz.ntmps108
  go_wp2_with (first
    | (go_at_call 138; (with_reducible refine (S.out).mono ?_); rintro e w' ⟨rfl, hb⟩)
    | (go_at_call 139; refine (T.out _).mono ?_; rintro e w2 ⟨rfl, rfl⟩))
  go_ret
  exact ⟨ret_int (by rw [E.out]), hb⟩

end Go.Proofs.YtbeobbanppkmhaaGreatDoor

/-
  The reference's Seal.
-/
namespace Go.Proofs.YtbeobbanppkmhaaGreatDoor
open Go.RowKit
set_option linter.unusedVariables false
set_option linter.unusedSimpArgs false

end Go.Proofs.YtbeobbanppkmhaaGreatDoor
