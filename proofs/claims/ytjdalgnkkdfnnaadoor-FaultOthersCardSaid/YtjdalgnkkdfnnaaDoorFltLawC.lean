/-
  The walk of FaultOthers, where an error is wrapped.
-/
import Derived.Test.YtjdalgnkkdfnnaaDoorFltLawB
namespace Go.Proofs.YtjdalgnkkdfnnaaDoor
open Go.RowKit
set_option linter.unusedVariables false
set_option linter.unusedSimpArgs false

set_option maxRecDepth 100000 in
set_option maxHeartbeats 4000000 in
theorem others_some {A : Option Addr} {n c : Nat} {bs : List Int} {code : Int} (hc : code ≠ 0) (block : Int) (w : World) (hI : Ints w A n c bs) (hn : n ≤ 300) (hbd : ∀ b ∈ bs, -9223372036854775808 ≤ b ∧ b ≤ 9223372036854775807) (hcd : -9223372036854775808 ≤ code ∧ code ≤ 9223372036854775807) (hbl : -9223372036854775808 ≤ block ∧ block ≤ 9223372036854775807) (hg : ErrT w) (hp : Pow w) :
    Calls Tryd.prog 6 #[.agg #[.slice A n c, .int .i64 code], .int .i64 block] w fun e w' => e = .returned (.bool true) ∧ Below w.heap.size w w' := by
  have HX := Lib.hid (BoxO.first w A n c code)
  have HI := Lib.hid (hI.below HX.out.bel)
  have OW := Lib.hid (fun W h => Own_chain (A := A) (n := n) (c := c) (bs := bs) (w := W) hc h)
  have hlen := hI.len
  have HLn := Lib.hid hlen
  have AT := Lib.hid (fun W (l : List Node) (h : Good W (.oth :: l)) => At_err block (by simp) h)
  have DG := Lib.hid (fun W => Digits_any block hbl.1 hbl.2 W)
  have hil := Lib.itoa_length_le block hbl.1 hbl.2
  have ad1 := run_add_l ⟨#[98, 108, 111, 99, 107, 32]⟩ (Lib.itoa block) (by simp; omega)
  have ad2 := run_add_r (98 :: 108 :: 111 :: 99 :: 107 :: 32 :: Lib.itoa block) ⟨#[58, 32, 111, 116, 104, 101, 114]⟩ (by simp; omega)
  have ALL := Lib.hid (fun (l : List Node) p (h : Chain bs code l) => (show codeOf (.flt block p :: .oth :: l) = code ∧ blocksOf (.flt block p :: .oth :: l) = block :: bs ∧ textOf (.flt block p :: .oth :: l) = 98 :: 108 :: 111 :: 99 :: 107 :: 32 :: (Lib.itoa block ++ [58, 32, 111, 116, 104, 101, 114]) ∧ ans (.flt block p :: .oth :: l) = some code ∧ Fits (.flt block p :: .oth :: l) ∧ (.flt block p :: .oth :: l : List Node).length ≤ 1000000 from by
    have h1 := h.ans
    have h2 := h.len
    refine ⟨by simp [codeOf, ans, h1], by simp [blocksOf, h.blocks], by simp [textOf, sBlock, sColon, sOther], by simp [ans, h1], ⟨hbl, h.fits hbd hcd⟩, by simp only [List.length_cons]; omega⟩))
  have CO := Lib.hid (fun W p (l : List Node) (hC : Chain bs code l) (h : Good W (.flt block p :: .oth :: l)) (h2 : ErrT W) => by
    have := Code_err h h2
    rw [(ALL.out l p hC).1] at this
    exact this)
  have BL := Lib.hid (fun W p (l : List Node) (hC : Chain bs code l) (h : Good W (.flt block p :: .oth :: l)) => by
    have := Blocks_any h (ALL.out l p hC).2.2.2.2.2
    rw [(ALL.out l p hC).2.1] at this
    exact this)
  have TX := Lib.hid (fun W p (l : List Node) (hC : Chain bs code l) (h : Good W (.flt block p :: .oth :: l)) (h2 : Pow W) => by
    have := Text_err h (ALL.out l p hC).2.2.2.2.1 h2 (ALL.out l p hC).2.2.2.2.2
    rw [(ALL.out l p hC).2.2.1] at this
    exact this)
  have IS := Lib.hid (fun W p (l : List Node) (hC : Chain bs code l) (h : Good W (.flt block p :: .oth :: l)) => by
    have := Is_err code h
    rw [(ALL.out l p hC).2.2.2.1, decide_eq_true rfl] at this
    exact this)
  have eN := run_text_neq (98 :: 108 :: 111 :: 99 :: 107 :: 32 :: (Lib.itoa block ++ [58, 32, 111, 116, 104, 101, 114]))
  have gs := guard_str_neq
  have HE := Lib.hid hg
  have HP := Lib.hid hp
  simp only [List.cons_append, List.nil_append] at ad1 ad2
  simp only [val] at AT CO BL IS TX
  have hle := hI.le
  have hcb : (code == 0) = false := by simpa using hc
  clear hg hp hil hI hbl hbd hcd ALL hc hlen
  generalize 98 :: 108 :: 111 :: 99 :: 107 :: 32 :: (Lib.itoa block ++ [58, 32, 111, 116, 104, 101, 114]) = TT at *
  generalize 98 :: 108 :: 111 :: 99 :: 107 :: 32 :: Lib.itoa block = TB at *
  generalize Lib.itoa block = TI at *
  go_enter Tryd.func6, Tryd.ntmps6
  go_wp2_with (first
    | (go_at_call 8; (with_reducible refine (OW.out _ HI.out).mono ?_); rintro e w1 ⟨l, tv, uv, rfl, hv, hC, hG, hb1⟩; have H1 := Lib.hid (HX.out.later hb1); have HC := Lib.hid hC; have G1 : Hid (Good w1 (.oth :: l)) := ⟨hC.plain, hG⟩; have AT2 := Lib.hid (fun W h => AT.out W l h); rw [hv] at AT2; have HV := Lib.hid hv; clear hb1 hC hG hv)
    | (go_at_call 14; (with_reducible refine (AT2.out _ G1.out).mono ?_); rintro e w2 ⟨p, rfl, hG2, hb2⟩; have G2 := Lib.hid hG2; have H2 := Lib.hid (H1.out.later hb2); clear hG2 hb2)
    | (go_at_call 17; (with_reducible refine (CO.out _ _ _ HC.out G2.out (HE.out.later H2.out.bel)).mono ?_); rintro e w3 ⟨rfl, hb3⟩; have G3 := Lib.hid (G2.out.below hb3); have H3 := Lib.hid (H2.out.later hb3); clear hb3)
    | (go_at_call 18; (with_reducible refine (BL.out _ _ _ HC.out G3.out).mono ?_); rintro e w4 ⟨A4, n4, c4, rfl, hI4, hb4, _⟩; have G4 := Lib.hid (G3.out.below hb4); have H4 := Lib.hid (H3.out.later hb4); obtain rfl : n + 1 = n4 := (by have := hI4.len; rw [← this, List.length_cons, HLn.out]); obtain ⟨b4, o4, rfl, hq4, hc4⟩ := hI4.row.lit (by simp [i64s]); have q4 : w4.cell? ⟨b4, o4, none⟩ = some (.int .i64 block) := hc4 0 _ rfl; clear hb4 hI4 hc4)
    | (go_at_call 11; (with_reducible refine (TX.out _ _ _ HC.out G4.out (HP.out.later H4.out.bel)).mono ?_); rintro e w5 ⟨rfl, hb5⟩; have G5 := Lib.hid (G4.out.below hb5); have H5 := Lib.hid (H4.out.later hb5); clear hb5)
    | (go_at_call 19; (with_reducible refine (DG.out _).mono ?_); rintro e w6 ⟨rfl, hb6⟩; have G6 := Lib.hid (G5.out.below hb6); have H6 := Lib.hid (H5.out.later hb6); have k6 := H6.out.k1; refine Hid.out ?_))
  have b7 : Below w6.heap.size w6 (w6.alloc (.cells #[.pointer none] 47)) := (Below.refl _ _).alloc (Nat.le_refl _) _
  have H7 := Lib.hid (H6.out.later b7)
  have G7 := Lib.hid (G6.out.below b7)
  have hd7 := (MapKept.heap_alloc w6 (.cells #[.pointer none] 47)).1
  have HD7 := Lib.hid hd7
  have k70 := H7.out.k0
  have k71 := H7.out.k1
  clear b7 hd7 hb6
  refine Lib.hid ?_
  go_wp2_with (first
    | (go_at_call 13; (with_reducible refine (IS.out _ _ _ HC.out G7.out).mono ?_); rintro e w8 ⟨rfl, hb8⟩; have H8 := Lib.hid (H7.out.later hb8); have G8 := Lib.hid (G7.out.below hb8); have hd8 := (hb8.block _ (block_lt HD7.out)).trans HD7.out; have HD8 := Lib.hid hd8; have AS := Lib.hid (as_flt ⟨p, 0, none⟩ ⟨w6.heap.size, 0, none⟩ (.pointer none) w8 (HE.out.later H8.out.bel) (by rw [cell_of_row w8 w6.heap.size 0 _ _ _ hd8]; rfl) (Lib.frozen_of_heap hd8 0)); clear hb8 hd8)
    | (go_at_call 20; (with_reducible refine AS.out.mono ?_); rintro e w9 ⟨rfl, w10, hw9, hb10⟩; refine Hid.out ?_))
  have hpl : p < w6.heap.size := block_lt G6.out.1
  have hd10 := (hb10.block _ (block_lt HD8.out)).trans HD8.out
  have G10 := G8.out.below hb10
  have x0 : (w10.setCell ⟨w6.heap.size, 0, none⟩ (.pointer (some ⟨p, 0, none⟩))).cell? ⟨w6.heap.size, 0, none⟩ = some (.pointer (some ⟨p, 0, none⟩)) :=
    World.cell?_setCell_same _ _ _ (u := .pointer none) (by rw [cell_of_row w10 w6.heap.size 0 _ _ _ hd10]; rfl)
  have x1 : (w10.setCell ⟨w6.heap.size, 0, none⟩ (.pointer (some ⟨p, 0, none⟩))).cell? ⟨p, 0, none⟩ = some (.int .i64 block) := by
    rw [World.cell?_of_block (w := w10) (Below.heap_setCell _ _ _ _ (by show p ≠ w6.heap.size; omega)), cell_of_row w10 p 0 _ _ _ G10.1]; rfl
  have hdw : w.heap.size ≤ w6.heap.size := H6.out.bel.size
  have b9 : Below w.heap.size w (w10.setCell ⟨w6.heap.size, 0, none⟩ (.pointer (some ⟨p, 0, none⟩))) := (H8.out.bel.trans (hb10.mono H8.out.bel.size)).setCell (p := ⟨w6.heap.size, 0, none⟩) hdw _
  generalize w10.setCell ⟨w6.heap.size, 0, none⟩ (.pointer (some ⟨p, 0, none⟩)) = w9 at *
  have LV := Lib.hid (lives5_any w9 (HE.out.later b9) (HP.out.later b9))
  have B9 := Lib.hid b9
  clear b9 hdw G10 hd10 hb10
  refine Lib.hid ?_
  go_wp2_with (go_at_call 7; (with_reducible refine LV.out.mono ?_); rintro e w11 ⟨rfl, hb11⟩)
  go_ret
  exact ⟨rfl, B9.out.trans (hb11.mono B9.out.size)⟩

theorem others_walk (A : Option Addr) (n c : Nat) (bs : List Int) (code : Int) (block : Int) (w : World) (hI : Ints w A n c bs) (hbd : ∀ b ∈ bs, -9223372036854775808 ≤ b ∧ b ≤ 9223372036854775807) (hcd : -9223372036854775808 ≤ code ∧ code ≤ 9223372036854775807) (hbl : -9223372036854775808 ≤ block ∧ block ≤ 9223372036854775807) (hg : ErrT w) (hp : Pow w) :
    Calls Tryd.prog 6 #[.agg #[.slice A n c, .int .i64 code], .int .i64 block] w fun e w' => e = .returned (.bool true) ∧ Below w.heap.size w w' := by
  by_cases hn : n ≤ 300
  · by_cases hc : code = 0
    · subst hc
      exact others_none block w hI hn hbl hg hp
    · exact others_some hc block w hI hn hbd hcd hbl hg hp
  · exact others_big A n c code block w (by omega) hI.le hg hp
end Go.Proofs.YtjdalgnkkdfnnaaDoor
