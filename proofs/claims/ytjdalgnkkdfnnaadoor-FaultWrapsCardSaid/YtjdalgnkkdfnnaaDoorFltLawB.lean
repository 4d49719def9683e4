/-
  The walk of FaultOthers.
-/
import Derived.Test.YtjdalgnkkdfnnaaDoorFltR
import Derived.Test.YtjdalgnkkdfnnaaDoorFltLawA
namespace Go.Proofs.YtjdalgnkkdfnnaaDoor
open Go.RowKit
set_option linter.unusedVariables false
set_option linter.unusedSimpArgs false

theorem Digits_any (n : Int) (h0 : -9223372036854775808 ≤ n) (h1 : n ≤ 9223372036854775807) (w : World) :
    Calls Tryd.prog 19 #[.int .i64 n] w fun e w' => e = .returned (str (Lib.itoa n)) ∧ Below w.heap.size w w' := by
  by_cases h : n < 0
  · obtain ⟨u, rfl⟩ : ∃ u : Nat, n = -(u : Int) := ⟨n.natAbs, by omega⟩
    rw [Lib.itoa_neg u (by omega)]
    exact Digits_neg w u u (Nat.le_refl _) (by omega) (by omega) w
  · obtain ⟨u, rfl⟩ := Int.eq_ofNat_of_zero_le (show 0 ≤ n by omega)
    rw [Lib.itoa_nonneg]
    exact Digits_nat u (by omega) w

theorem run_text_neq (x : List UInt8) (w : World) : (binOp .neq 9 (str x) (str x)).run Tryd.prog w = .ok (.bool false) w := by
  simp [str, binOp, Op.stringOp, beq_toListBytes]
theorem run_text_eq (x : List UInt8) (w : World) : (binOp .eql 9 (str x) (str x)).run Tryd.prog w = .ok (.bool true) w := by
  simp [str, binOp, Op.stringOp, beq_toListBytes]

theorem Own_chain {A : Option Addr} {n c : Nat} {bs : List Int} {code : Int} (hc : code ≠ 0) {w : World} (hI : Ints w A n c bs) :
    Calls Tryd.prog 8 #[.agg #[.slice A n c, .int .i64 code]] w fun e w' => ∃ l t u, e = .returned (.iface t u) ∧ val l = .iface t u ∧ Chain bs code l ∧ Good w' l ∧ Below w.heap.size w w' := by
  refine (Own_err hc hI).mono ?_
  rintro e w' ⟨l, rfl, h1, h2, h3⟩
  obtain ⟨t, u, hv⟩ : ∃ t u, val l = .iface t u := by
    have hne := h1.ne
    cases l with
    | nil => exact absurd rfl hne
    | cons x l => cases x <;> exact ⟨_, _, rfl⟩
  exact ⟨l, t, u, by rw [hv], hv, h1, h2, h3⟩

/-- the law's own variable, and what it has gone through -/
structure BoxO (w0 W : World) (A : Option Addr) (n c : Nat) (code : Int) : Prop where
  bel : Below w0.heap.size w0 W
  box : W.heap[w0.heap.size]? = some (.cells #[.slice A n c, .int .i64 code] 24 (0, 0))
theorem BoxO.later {w0 W W' : World} {A : Option Addr} {n c : Nat} {code : Int} (h : BoxO w0 W A n c code) (hb : Below W.heap.size W W') : BoxO w0 W' A n c code :=
  ⟨h.bel.trans (hb.mono h.bel.size), (hb.block _ (block_lt h.box)).trans h.box⟩
theorem BoxO.k0 {w0 W : World} {A : Option Addr} {n c : Nat} {code : Int} (h : BoxO w0 W A n c code) : W.cell? ⟨w0.heap.size, 0, none⟩ = some (.slice A n c) := by rw [cell_of_row W w0.heap.size 0 _ _ _ h.box]; rfl
theorem BoxO.k1 {w0 W : World} {A : Option Addr} {n c : Nat} {code : Int} (h : BoxO w0 W A n c code) : W.cell? ⟨w0.heap.size, 1, none⟩ = some (.int .i64 code) := by rw [cell_of_row W w0.heap.size 1 _ _ _ h.box]; rfl
theorem BoxO.first (w : World) (A : Option Addr) (n c : Nat) (code : Int) : BoxO w (w.alloc (.cells #[.slice A n c, .int .i64 code] 24)) A n c code :=
  ⟨(Below.refl _ _).alloc (Nat.le_refl _) _, (MapKept.heap_alloc w _).1⟩

set_option maxRecDepth 100000 in
set_option maxHeartbeats 4000000 in
theorem others_big (A : Option Addr) (n c : Nat) (code block : Int) (w : World) (hn : 300 < n) (hle : n ≤ 9223372036854775807) (hg : ErrT w) (hp : Pow w) :
    Calls Tryd.prog 6 #[.agg #[.slice A n c, .int .i64 code], .int .i64 block] w fun e w' => e = .returned (.bool true) ∧ Below w.heap.size w w' := by
  have b1 : Below w.heap.size w (w.alloc (.cells #[.slice A n c, .int .i64 code] 24)) := (Below.refl _ _).alloc (Nat.le_refl _) _
  have LV := Lib.hid (lives5_any _ (hg.later b1) (hp.later b1))
  have HB := Lib.hid b1
  clear hg hp b1
  go_enter Tryd.func6, Tryd.ntmps6
  go_wp2_with (go_at_call 7; (with_reducible refine LV.out.mono ?_); rintro e w1 ⟨rfl, hb⟩)
  go_ret
  exact ⟨rfl, HB.out.trans (hb.mono HB.out.size)⟩

set_option maxRecDepth 100000 in
set_option maxHeartbeats 4000000 in
theorem others_none {A : Option Addr} {n c : Nat} {bs : List Int} (block : Int) (w : World) (hI : Ints w A n c bs) (hn : n ≤ 300) (hbl : -9223372036854775808 ≤ block ∧ block ≤ 9223372036854775807) (hg : ErrT w) (hp : Pow w) :
    Calls Tryd.prog 6 #[.agg #[.slice A n c, .int .i64 0], .int .i64 block] w fun e w' => e = .returned (.bool true) ∧ Below w.heap.size w w' := by
  have HX := Lib.hid (BoxO.first w A n c 0)
  have OW := Lib.hid (fun W => Own_nil A n c W)
  simp only [rf] at OW
  have AT := Lib.hid (fun W => At_err block (l := [.oth]) (by simp) (w := W) ⟨by simp [Plain], trivial⟩)
  have CO := Lib.hid (fun W p (h : Good W [.flt block p, .oth]) (h2 : ErrT W) => Code_err h h2)
  have BL := Lib.hid (fun W p (h : Good W [.flt block p, .oth]) => Blocks_any h (by simp))
  have TX := Lib.hid (fun W p (h : Good W [.flt block p, .oth]) (h2 : Pow W) => Text_err h ⟨hbl, trivial⟩ h2 (by simp))
  have IS := Lib.hid (fun W p (h : Good W [.flt block p, .oth]) => Is_err 0 h)
  have DG := Lib.hid (fun W => Digits_any block hbl.1 hbl.2 W)
  have hil := Lib.itoa_length_le block hbl.1 hbl.2
  have ad1 := run_add_l ⟨#[98, 108, 111, 99, 107, 32]⟩ (Lib.itoa block) (by simp; omega)
  have ad2 := run_add_r (98 :: 108 :: 111 :: 99 :: 107 :: 32 :: Lib.itoa block) ⟨#[58, 32, 111, 116, 104, 101, 114]⟩ (by simp; omega)
  have eT : ∀ p, textOf [.flt block p, .oth] = (98 :: 108 :: 111 :: 99 :: 107 :: 32 :: Lib.itoa block) ++ [58, 32, 111, 116, 104, 101, 114] := fun p => by simp [textOf, sBlock, sColon, sOther]
  simp only [eT] at TX
  simp only [List.cons_append, List.nil_append] at ad1 ad2 TX
  have eN := run_text_neq (98 :: 108 :: 111 :: 99 :: 107 :: 32 :: (Lib.itoa block ++ [58, 32, 111, 116, 104, 101, 114]))
  have gs := guard_str_neq
  have HE := Lib.hid hg
  have HP := Lib.hid hp
  have bo := build_other (.inl rfl : IsI .nilIface)
  simp only [val, codeOf, ans, blocksOf] at AT CO BL IS TX
  have hle := hI.le
  clear hg hp hil eT hI hbl
  generalize 98 :: 108 :: 111 :: 99 :: 107 :: 32 :: (Lib.itoa block ++ [58, 32, 111, 116, 104, 101, 114]) = TT at *
  generalize 98 :: 108 :: 111 :: 99 :: 107 :: 32 :: Lib.itoa block = TB at *
  generalize Lib.itoa block = TI at *
  go_enter Tryd.func6, Tryd.ntmps6
  go_wp2_with (first
    | (go_at_call 8; (with_reducible refine (OW.out _).mono ?_); rintro e w1 ⟨rfl, hb1⟩; have H1 := Lib.hid (HX.out.later hb1); clear hb1)
    | (go_at_call 14; (with_reducible refine (AT.out _).mono ?_); rintro e w2 ⟨p, rfl, hG2, hb2⟩; have G2 := Lib.hid hG2; have H2 := Lib.hid (H1.out.later hb2); clear hG2 hb2)
    | (go_at_call 17; (with_reducible refine (CO.out _ _ G2.out (HE.out.later H2.out.bel)).mono ?_); rintro e w3 ⟨rfl, hb3⟩; have G3 := Lib.hid (G2.out.below hb3); have H3 := Lib.hid (H2.out.later hb3); clear hb3)
    | (go_at_call 18; (with_reducible refine (BL.out _ _ G3.out).mono ?_); rintro e w4 ⟨A4, n4, c4, rfl, hI4, hb4, _⟩; have G4 := Lib.hid (G3.out.below hb4); have H4 := Lib.hid (H3.out.later hb4); obtain rfl : 1 = n4 := hI4.len; obtain ⟨b4, o4, rfl, hq4, hc4⟩ := hI4.row.lit (by simp [i64s]); have q4 : w4.cell? ⟨b4, o4, none⟩ = some (.int .i64 block) := hc4 0 _ rfl; clear hb4 hI4 hc4)
    | (go_at_call 11; (with_reducible refine (TX.out _ _ G4.out (HP.out.later H4.out.bel)).mono ?_); rintro e w5 ⟨rfl, hb5⟩; have G5 := Lib.hid (G4.out.below hb5); have H5 := Lib.hid (H4.out.later hb5); clear hb5)
    | (go_at_call 19; (with_reducible refine (DG.out _).mono ?_); rintro e w6 ⟨rfl, hb6⟩; have G6 := Lib.hid (G5.out.below hb6); have H6 := Lib.hid (H5.out.later hb6); have k6 := H6.out.k1; clear hb6)
    | (go_at_call 13; (with_reducible refine (IS.out _ _ G6.out).mono ?_); rintro e w7 ⟨rfl, hb7⟩; have H7 := Lib.hid (H6.out.later hb7); clear hb7)
    | (go_at_call 7; refine (lives5_any _ (HE.out.later H7.out.bel) (HP.out.later H7.out.bel)).mono ?_; rintro e w8 ⟨rfl, hb8⟩; have H8 := Lib.hid (H7.out.later hb8); clear hb8))
  go_ret
  exact ⟨rfl, H8.out.bel⟩
end Go.Proofs.YtjdalgnkkdfnnaaDoor
