/-
  Joined: BlkV, BlkLawC.
-/
import Derived.Test.YtbeobbanppkmhaaGreatDoorJBlkC42
import Derived.Test.YtbeobbanppkmhaaGreatDoorJBlkC41
import Derived.Test.YtbeobbanppkmhaaGreatDoorJBlkC03
import Derived.Test.YtbeobbanppkmhaaGreatDoorJBlkC32
import Derived.Test.YtbeobbanppkmhaaGreatDoorJBlkC24
import Derived.Test.YtbeobbanppkmhaaGreatDoorJBlkC14
import Derived.Test.YtbeobbanppkmhaaGreatDoorJBlkC33
import Derived.Test.YtbeobbanppkmhaaGreatDoorJBlkC39
/-
  Layer 11: the document's example, and what was written is read.
-/
namespace Go.Proofs.YtbeobbanppkmhaaGreatDoor
open Go.RowKit
set_option linter.unusedVariables false
set_option linter.unusedSimpArgs false

/-- a program's error at a block, as links -/
theorem ErrAt.err {w : World} {v : Value} {no x : Int} (h : ErrAt w v no x) (hx : x ≠ 0) : ∃ p, v = .iface 69 (.pointer (some ⟨p, 0, none⟩)) ∧ Good w [.flt no p, .num x] := by
  rcases h with ⟨h, _⟩ | ⟨_, h⟩
  · exact absurd h hx
  · exact h
theorem ErrAt.nil {w : World} {v : Value} {no : Int} (h : ErrAt w v no 0) : v = .nilIface := by
  rcases h with ⟨_, h⟩ | ⟨h, _⟩
  · exact h
  · exact absurd rfl h

/-- the example's bytes -/
abbrev liveP : List UInt8 := [1, 0, 0, 0, 2] ++ List.replicate 239 0
theorem liveP_enc : encBits [2] = liveP := by decide +kernel
theorem liveP_len : liveP.length = 244 := by decide +kernel
abbrev liveZ : List UInt8 := List.replicate 512 0
abbrev liveL : List UInt8 := wrL11 liveZ 2 1 3 liveP
theorem live_write : wrE11 2 1 3 liveP = 0 := by
  rw [wrE11_ok (by rw [liveP_len]; decide)]
  decide
theorem live_len : liveL.length = 2 * 256 := wrL11_length (by decide +kernel)
theorem live_read : bitE11 liveL 2 1 = 0 ∧ bitL11 liveL 2 1 = [2] := by
  obtain ⟨h1, h2⟩ := in_written (L := liveZ) (n := 2) (no := 1) (kind := 3) (l := liveP) (by decide +kernel) live_write
  rw [liveP_len, List.replicate_zero, List.append_nil] at h2
  have ok : okB9 [2] = true := by decide
  unfold bitE11 bitL11
  rw [h2, h1, if_neg (by simp), if_neg (by simp), ← liveP_enc]
  refine ⟨bits_readE ok, ?_⟩
  rw [readBL9, if_pos (bits_readE ok)]
  exact bits_read ok
theorem live_node : nodE11 liveZ 2 9 0 = 3 ∧ nodN11 liveZ 2 9 0 = Nod.zero := by
  have h : nodE11 liveZ 2 9 0 = 3 := by
    rw [nodE11, inE11, show outB 2 9 = true by decide]
    rfl
  exact ⟨h, by rw [nodN11, h, if_neg (by decide)]⟩
/-- the example's text -/
def live11T : List UInt8 := [98, 108, 111, 99, 107, 32, 57, 58, 32, 101, 114, 114, 111, 114, 32, 51]
theorem text_live11 (p : Nat) : textOf [.flt 9 p, .num 3] = live11T := by
  have d : ∀ u, u < 10 → Lib.decDigits u = [UInt8.ofNat (48 + u)] := fun u h => by rw [Lib.decDigits, dif_pos h]
  have h9 : Lib.itoa 9 = [57] := d 9 (by decide)
  have h3 : Lib.itoa 3 = [51] := d 3 (by decide)
  simp only [textOf, h9, h3]
  rfl

/-- an image in a later world -/
structure LvS (w W : World) (p g : Nat) (L : List UInt8) : Prop where
  bel : Below w.heap.size w W
  img : Img W w.heap.size p g L
theorem LvS.later {w W W' : World} {p g : Nat} {L : List UInt8} (h : LvS w W p g L) (hb : Below W.heap.size W W') : LvS w W' p g L := ⟨h.bel.trans (hb.mono h.bel.size), h.img.later hb⟩
/-- a block of the image is no Fault -/
theorem Img.nofault {w : World} {B p g : Nat} {L : List UInt8} (h : Img w B p g L) (c : Array Value) : w.heap[g]? ≠ some (Obj.cells c 74 (0, 0)) := fun e => by
  rw [h.hg] at e
  injection e with e
  injection e with _ e2 _
  exact absurd e2 (by decide)

section
variable {w : World}
theorem lv_of (W : World) (g0 : Nat) (hO : Own8 W w.heap.size g0 liveZ) (hb : Below w.heap.size w W) : Calls Tryz.prog 8 #[.slice (some ⟨g0, 0, none⟩) 512 512] W fun e w' => ∃ p g, e = .returned (.pointer (some ⟨p, 0, none⟩)) ∧ LvS w w' p g liveZ := by
  refine (Of_any _ 512 512 liveZ W (hO.bytes (n := 512) List.length_replicate (by omega))).mono ?_
  rintro e w' ⟨p, g, h1, h2, h3⟩
  refine ⟨p, g, h1, hb.trans (h3.mono hb.size), ?_⟩
  rw [show whole 512 * 256 = 512 by decide, List.take_of_length_le (by simp)] at h2
  exact h2.down hb.size
theorem lv_node (W : World) (p g : Nat) (h : LvS w W p g liveZ) : Calls Tryz.prog 12 #[.pointer (some ⟨p, 0, none⟩), .int .i64 9, .int .i64 0] W fun e w' => ∃ q A5 n5 c5 A6 n6 c6, e = .returned (.tuple #[.agg #[.int .i64 0, .bool false, .slice A5 n5 c5, .slice A6 n6 c6], .iface 69 (.pointer (some ⟨q, 0, none⟩))]) ∧ Good w' [.flt 9 q, .num 3] ∧ LvS w w' p g liveZ := by
  refine (blockNode_any (n := 2) 9 0 h.img (by decide +kernel)).mono ?_
  rintro e w' ⟨v, A5, n5, c5, A6, n6, c6, h1, h2, h3, h4⟩
  rw [live_node.1] at h3
  rw [live_node.2] at h1
  obtain ⟨q, rfl, hG⟩ := h3.err (by decide)
  exact ⟨q, A5, n5, c5, A6, n6, c6, h1, hG, h.later h4⟩
theorem lv_write (W : World) (p g q : Nat) (A : Option Addr) (c : Nat) (h : LvS w W p g liveZ) (hG : Good W [.flt 9 q, .num 3]) (hB : Bytes8 W A 244 c liveP) : Calls Tryz.prog 22 #[.pointer (some ⟨p, 0, none⟩), .int .i64 1, .int .i64 3, .slice A 244 c] W fun e w' => e = .returned .nilIface ∧ Good w' [.flt 9 q, .num 3] ∧ LvS w w' p g liveL := by
  refine (blockWrite_any (n := 2) 1 3 h.img (by decide +kernel) hB).mono ?_
  rintro e w' ⟨v, rfl, hE, hI, hg⟩
  rw [live_write] at hE
  exact ⟨by rw [hE.nil], hG.same (Keeps.of_grown hg h.img.nofault), h.bel.trans (below_grown hg h.img.bg h.bel.size), hI⟩
theorem lv_bits (W : World) (p g q : Nat) (h : LvS w W p g liveL) (hG : Good W [.flt 9 q, .num 3]) : Calls Tryz.prog 16 #[.pointer (some ⟨p, 0, none⟩), .int .i64 1] W fun e w' => ∃ b off c, e = .returned (.tuple #[.slice (some ⟨b, off, none⟩) 1 c, .nilIface]) ∧ 1 ≤ c ∧ b < w'.heap.size ∧ w'.cell? ⟨b, off, none⟩ = some (.int .i64 2) ∧ Good w' [.flt 9 q, .num 3] ∧ LvS w w' p g liveL := by
  refine (blockBits_any (n := 2) 1 h.img live_len).mono ?_
  rintro e w' ⟨A, m, c, v, rfl, hI, hE, hb⟩
  rw [live_read.1] at hE
  rw [live_read.2] at hI
  obtain rfl : 1 = m := hI.len
  obtain rfl := hE.nil
  obtain ⟨b, off, rfl, hbl, hc⟩ := hI.row.lit (by simp [i64s])
  exact ⟨b, off, c, rfl, hI.cap, hbl, by simpa using hc 0 _ rfl, hG.below hb, h.later hb⟩
theorem lv_text (W : World) (p g q b off : Nat) {L : List UInt8} (h : LvS w W p g L) (hG : Good W [.flt 9 q, .num 3]) (hp : Pow w) (hb : b < W.heap.size) (hc : W.cell? ⟨b, off, none⟩ = some (.int .i64 2)) : Calls Tryz.prog 32 #[.iface 69 (.pointer (some ⟨q, 0, none⟩))] W fun e w' => e = .returned (str live11T) ∧ w'.cell? ⟨b, off, none⟩ = some (.int .i64 2) ∧ Below w.heap.size w w' := by
  refine (Text_err hG ⟨⟨by omega, by omega⟩, ⟨by omega, by omega⟩, trivial⟩ (hp.later h.bel) (by simp)).mono ?_
  rintro e w' ⟨rfl, h1⟩
  exact ⟨by rw [text_live11], (h1.cell (p := ⟨b, off, none⟩) hb).trans hc, h.bel.trans (h1.mono h.bel.size)⟩
end
theorem own_five (W : World) : (W.alloc (.cells #[.int .u8 1, .int .u8 0, .int .u8 0, .int .u8 0, .int .u8 2] 5)).ownsRow W.heap.size 5 1 (.slice (some ⟨W.heap.size, 0, none⟩) 5 5) 5 [.int .u8 1, .int .u8 0, .int .u8 0, .int .u8 0, .int .u8 2] :=
  ⟨rfl, .inr ⟨W.heap.size, 5, #[.int .u8 1, .int .u8 0, .int .u8 0, .int .u8 0, .int .u8 2], rfl, Nat.le_refl _, (MapKept.heap_alloc W _).1, Nat.le_refl _, by decide, rfl, rfl⟩⟩

set_option maxRecDepth 100000 in
set_option maxHeartbeats 1600000 in
theorem lives11_any (w : World) (hp : Pow w) : Calls Tryz.prog 7 #[] w fun e w' => e = .returned (.bool true) ∧ Below w.heap.size w w' := by
  obtain ⟨i0, hi0, hz0, hz1, hz2⟩ := info_parts info_u8
  have OF := Lib.hid (fun W g0 h hb => lv_of (w := w) W g0 h hb)
  have ND := Lib.hid (fun W p g h => lv_node (w := w) W p g h)
  have WT := Lib.hid (fun W p g q A c h hG hB => lv_write (w := w) W p g q A c h hG hB)
  have BT := Lib.hid (fun W p g q h hG => lv_bits (w := w) W p g q h hG)
  have TX := Lib.hid (fun W p g q b off h hG hb hc => lv_text (w := w) (L := liveL) W p g q b off h hG hp hb hc)
  have OW := Lib.hid own_five
  have eT := run_text_same live11T ⟨#[98, 108, 111, 99, 107, 32, 57, 58, 32, 101, 114, 114, 111, 114, 32, 51]⟩ rfl
  have gs := guard_str
  clear hp
  go_enter Tryz.func7, Tryz.ntmps7
  go_wp2_with (first
    | (at_make; refine wpList_make_full w rfl (.const (.int .i64 512)) (.const (.int .i64 512)) _ rfl w.heap.size 5 i0 _ 1 Tryz.underlying22 hi0 hz0 hz1 .i64 .i64 _ _ 512 rfl rfl rfl rfl (by rw [hz2]; omega) (by simp only [maxLen]; omega) (Nat.le_refl _) ?_; intro w1 hown1 hg1; have hb1 := below_of_grown hg1 (by simp); have HO1 := Lib.hid (own_zeros hown1 (Nat.le_refl _)); clear hown1 hg1)
    | (go_at_call 8; (with_reducible refine (OF.out _ _ HO1.out hb1).mono ?_); rintro e w2 ⟨p, g, rfl, hN2⟩)
    | (go_at_call 12; (with_reducible refine (ND.out _ _ _ hN2).mono ?_); rintro e w3 ⟨q, A5, n5, c5, A6, n6, c6, rfl, hG3, hN3⟩; have HG3 := Lib.hid hG3; clear hG3; have hal : Below w3.heap.size w3 (w3.alloc (.cells #[.int .i64 0, .bool false, .slice A5 n5 c5, .slice A6 n6 c6] 41)) := (Below.refl _ _).alloc (Nat.le_refl _) _; have hsz : (w3.alloc (.cells #[.int .i64 0, .bool false, .slice A5 n5 c5, .slice A6 n6 c6] 41)).heap.size = w3.heap.size + 1 := (by simp); have how := OW.out (w3.alloc (.cells #[.int .i64 0, .bool false, .slice A5 n5 c5, .slice A6 n6 c6] 41)); have hal2 := hal.alloc (by omega) (.cells #[.int .u8 1, .int .u8 0, .int .u8 0, .int .u8 0, .int .u8 2] 5); rw [hsz] at how; have HOW := Lib.hid how; have HAL := Lib.hid hal2; have hsz2 : w3.heap.size + 1 ≤ ((w3.alloc (.cells #[.int .i64 0, .bool false, .slice A5 n5 c5, .slice A6 n6 c6] 41)).alloc (.cells #[.int .u8 1, .int .u8 0, .int .u8 0, .int .u8 0, .int .u8 2] 5)).heap.size := (by simp); have HSZ := Lib.hid hsz2; clear hal hsz how hal2 hsz2)
    | (at_builtin; refine wpList_append_zeros _ rfl (.tmp 15) (.const (.int .i64 239)) _ _ rfl (w3.heap.size + 1) 5 .i64 Tryz.underlying22 Tryz.underlying3 info_u8 (.slice (some ⟨w3.heap.size + 1, 0, none⟩) 5 5) 5 [.int .u8 1, .int .u8 0, .int .u8 0, .int .u8 0, .int .u8 2] rfl HOW HSZ.out (by omega) 239 (by omega) rfl (by omega) ?_; intro v4 w4 ho4 hs4 hb4; have hb5 : Below w3.heap.size w3 w4 := HAL.out.trans (hb4.mono (by omega)); have hN4 := hN3.later hb5; have HG4 := Lib.hid (HG3.out.below hb5); obtain ⟨A4, c4, rfl, hB4⟩ := Bytes8.of_own (l := liveP) (n := 244) (by have := ho4.out; rw [show ([Value.int .u8 1, .int .u8 0, .int .u8 0, .int .u8 0, .int .u8 2] : List Value) = u8s [1, 0, 0, 0, 2] from rfl, ← u8s_append] at this; exact this); have HB4 := Lib.hid hB4; clear ho4 hs4 hb4 hb5 hB4)
    | (go_at_call 22; (with_reducible refine (WT.out _ _ _ _ _ _ hN4 HG4.out HB4.out).mono ?_); rintro e w5 ⟨rfl, hG5, hN5⟩; have HG5 := Lib.hid hG5; clear hG5)
    | (go_at_call 16; (with_reducible refine (BT.out _ _ _ _ hN5 HG5.out).mono ?_); rintro e w6 ⟨b, off, c, rfl, hc1, hbl, hcell, hG6, hN6⟩; have HG6 := Lib.hid hG6; have HC6 := Lib.hid hcell; clear hG6 hcell)
    | (go_at_call 32; (with_reducible refine (TX.out _ _ _ _ _ _ hN6 HG6.out hbl HC6.out).mono ?_); rintro e w7 ⟨rfl, hcell, hb7⟩))
  go_ret
  exact ⟨rfl, hb7⟩

end Go.Proofs.YtbeobbanppkmhaaGreatDoor

/-
  The walk of BlockReads.
-/
namespace Go.Proofs.YtbeobbanppkmhaaGreatDoor
open Go.RowKit
set_option linter.unusedVariables false
set_option linter.unusedSimpArgs false

/-- both images -/
def R0 (w W : World) (p g p2 : Nat) (v : Value) (L : List UInt8) (q : Nat) : Prop := Two w p g p2 v L (blks L q) W
theorem R0.later {w W W' : World} {p g p2 : Nat} {v : Value} {L : List UInt8} {q : Nat} (h : R0 w W p g p2 v L q) (hb : Below W.heap.size W W') : R0 w W' p g p2 v L q := Two.later h hb
theorem R0.two {w W : World} {p g p2 : Nat} {v : Value} {L : List UInt8} {q : Nat} (h : R0 w W p g p2 v L q) : Two w p g p2 v L (blks L q) W := h
theorem al1 (W : World) (a : Obj) : Below W.heap.size W (W.alloc a) := (Below.refl _ _).alloc (Nat.le_refl _) _
structure R1 (w W : World) (p g p2 : Nat) (v : Value) (L : List UInt8) (q : Nat) (b9 : Nat) (f : Nat → Int) (v1 : Value) (x1 : Int) : Prop where
  prev : R0 w W p g p2 v L q
  s9 : SupAt W b9 f
  e1 : ErrAt W v1 0 x1
theorem R1.later {w W W' : World} {p g p2 : Nat} {v : Value} {L : List UInt8} {q : Nat} {b9 : Nat} {f : Nat → Int} {v1 : Value} {x1 : Int} (h : R1 w W p g p2 v L q b9 f v1 x1) (hb : Below W.heap.size W W') : R1 w W' p g p2 v L q b9 f v1 x1 := ⟨h.prev.later hb, h.s9.later hb, h.e1.below hb⟩
structure R2 (w W : World) (p g p2 : Nat) (v : Value) (L : List UInt8) (q : Nat) (b9 : Nat) (f : Nat → Int) (v1 : Value) (x1 : Int) (b11 b12 : Nat) (A1 : Option Addr) (n1 c1 : Nat) : Prop where
  prev : R1 w W p g p2 v L q b9 f v1 x1
  s11 : SupAt W b11 f
  f12 : FltAt W b12 (.slice A1 n1 c1) (.int .i64 x1)
  i12 : Ints W A1 n1 c1 (atL 0 x1)
theorem R2.later {w W W' : World} {p g p2 : Nat} {v : Value} {L : List UInt8} {q : Nat} {b9 : Nat} {f : Nat → Int} {v1 : Value} {x1 : Int} {b11 b12 : Nat} {A1 : Option Addr} {n1 c1 : Nat} (h : R2 w W p g p2 v L q b9 f v1 x1 b11 b12 A1 n1 c1) (hb : Below W.heap.size W W') : R2 w W' p g p2 v L q b9 f v1 x1 b11 b12 A1 n1 c1 := ⟨h.prev.later hb, h.s11.later hb, h.f12.later hb, h.i12.below hb⟩
structure R3 (w W : World) (p g p2 : Nat) (v : Value) (L : List UInt8) (q : Nat) (b9 : Nat) (f : Nat → Int) (v1 : Value) (x1 : Int) (b11 b12 : Nat) (A1 : Option Addr) (n1 c1 : Nat) (b13 : Nat) (tree : Int) (leaf : Bool) (ks : List Int) (vs : List (List UInt8)) (A5 : Option Addr) (n5 c5 : Nat) (A6 : Option Addr) (n6 c6 : Nat) (no : Int) (v4 : Value) (x2 : Int) : Prop where
  prev : R2 w W p g p2 v L q b9 f v1 x1 b11 b12 A1 n1 c1
  n13 : NodAt W b13 tree leaf (.slice A5 n5 c5) (.slice A6 n6 c6)
  in13 : NodIn W ⟨tree, leaf, ks, vs⟩ A5 n5 c5 A6 n6 c6
  e2 : ErrAt W v4 no x2
theorem R3.later {w W W' : World} {p g p2 : Nat} {v : Value} {L : List UInt8} {q : Nat} {b9 : Nat} {f : Nat → Int} {v1 : Value} {x1 : Int} {b11 b12 : Nat} {A1 : Option Addr} {n1 c1 : Nat} {b13 : Nat} {tree : Int} {leaf : Bool} {ks : List Int} {vs : List (List UInt8)} {A5 : Option Addr} {n5 c5 : Nat} {A6 : Option Addr} {n6 c6 : Nat} {no : Int} {v4 : Value} {x2 : Int} (h : R3 w W p g p2 v L q b9 f v1 x1 b11 b12 A1 n1 c1 b13 tree leaf ks vs A5 n5 c5 A6 n6 c6 no v4 x2) (hb : Below W.heap.size W W') : R3 w W' p g p2 v L q b9 f v1 x1 b11 b12 A1 n1 c1 b13 tree leaf ks vs A5 n5 c5 A6 n6 c6 no v4 x2 := ⟨h.prev.later hb, h.n13.later hb, h.in13.below hb, h.e2.below hb⟩
structure R4 (w W : World) (p g p2 : Nat) (v : Value) (L : List UInt8) (q : Nat) (b9 : Nat) (f : Nat → Int) (v1 : Value) (x1 : Int) (b11 b12 : Nat) (A1 : Option Addr) (n1 c1 : Nat) (b13 : Nat) (tree : Int) (leaf : Bool) (ks : List Int) (vs : List (List UInt8)) (A5 : Option Addr) (n5 c5 : Nat) (A6 : Option Addr) (n6 c6 : Nat) (no : Int) (v4 : Value) (x2 : Int) (b15 b16 : Nat) (B5 : Option Addr) (m5 d5 : Nat) (B6 : Option Addr) (m6 d6 : Nat) (A2 : Option Addr) (n2 c2 : Nat) : Prop where
  prev : R3 w W p g p2 v L q b9 f v1 x1 b11 b12 A1 n1 c1 b13 tree leaf ks vs A5 n5 c5 A6 n6 c6 no v4 x2
  n15 : NodAt W b15 tree leaf (.slice B5 m5 d5) (.slice B6 m6 d6)
  in15 : NodIn W ⟨tree, leaf, ks, vs⟩ B5 m5 d5 B6 m6 d6
  f16 : FltAt W b16 (.slice A2 n2 c2) (.int .i64 x2)
  i16 : Ints W A2 n2 c2 (atL no x2)
theorem R4.later {w W W' : World} {p g p2 : Nat} {v : Value} {L : List UInt8} {q : Nat} {b9 : Nat} {f : Nat → Int} {v1 : Value} {x1 : Int} {b11 b12 : Nat} {A1 : Option Addr} {n1 c1 : Nat} {b13 : Nat} {tree : Int} {leaf : Bool} {ks : List Int} {vs : List (List UInt8)} {A5 : Option Addr} {n5 c5 : Nat} {A6 : Option Addr} {n6 c6 : Nat} {no : Int} {v4 : Value} {x2 : Int} {b15 b16 : Nat} {B5 : Option Addr} {m5 d5 : Nat} {B6 : Option Addr} {m6 d6 : Nat} {A2 : Option Addr} {n2 c2 : Nat} (h : R4 w W p g p2 v L q b9 f v1 x1 b11 b12 A1 n1 c1 b13 tree leaf ks vs A5 n5 c5 A6 n6 c6 no v4 x2 b15 b16 B5 m5 d5 B6 m6 d6 A2 n2 c2) (hb : Below W.heap.size W W') : R4 w W' p g p2 v L q b9 f v1 x1 b11 b12 A1 n1 c1 b13 tree leaf ks vs A5 n5 c5 A6 n6 c6 no v4 x2 b15 b16 B5 m5 d5 B6 m6 d6 A2 n2 c2 := ⟨h.prev.later hb, h.n15.later hb, h.in15.below hb, h.f16.later hb, h.i16.below hb⟩
structure K1 (w W : World) (p g p2 : Nat) (v : Value) (L : List UInt8) (q : Nat) (A7 : Option Addr) (n7 c7 : Nat) (lb : List Int) (no : Int) (v7 : Value) (x3 : Int) : Prop where
  prev : R0 w W p g p2 v L q
  i7 : Ints W A7 n7 c7 lb
  e3 : ErrAt W v7 no x3
theorem K1.later {w W W' : World} {p g p2 : Nat} {v : Value} {L : List UInt8} {q : Nat} {A7 : Option Addr} {n7 c7 : Nat} {lb : List Int} {no : Int} {v7 : Value} {x3 : Int} (h : K1 w W p g p2 v L q A7 n7 c7 lb no v7 x3) (hb : Below W.heap.size W W') : K1 w W' p g p2 v L q A7 n7 c7 lb no v7 x3 := ⟨h.prev.later hb, h.i7.below hb, h.e3.below hb⟩
structure K2 (w W : World) (p g p2 : Nat) (v : Value) (L : List UInt8) (q : Nat) (A7 : Option Addr) (n7 c7 : Nat) (lb : List Int) (no : Int) (v7 : Value) (x3 : Int) (A8 : Option Addr) (n8 c8 : Nat) (b20 : Nat) (A3 : Option Addr) (n3 c3 : Nat) : Prop where
  prev : K1 w W p g p2 v L q A7 n7 c7 lb no v7 x3
  i8 : Ints W A8 n8 c8 lb
  f20 : FltAt W b20 (.slice A3 n3 c3) (.int .i64 x3)
  i20 : Ints W A3 n3 c3 (atL no x3)
theorem K2.later {w W W' : World} {p g p2 : Nat} {v : Value} {L : List UInt8} {q : Nat} {A7 : Option Addr} {n7 c7 : Nat} {lb : List Int} {no : Int} {v7 : Value} {x3 : Int} {A8 : Option Addr} {n8 c8 : Nat} {b20 : Nat} {A3 : Option Addr} {n3 c3 : Nat} (h : K2 w W p g p2 v L q A7 n7 c7 lb no v7 x3 A8 n8 c8 b20 A3 n3 c3) (hb : Below W.heap.size W W') : K2 w W' p g p2 v L q A7 n7 c7 lb no v7 x3 A8 n8 c8 b20 A3 n3 c3 := ⟨h.prev.later hb, h.i8.below hb, h.f20.later hb, h.i20.below hb⟩
structure K3 (w W : World) (p g p2 : Nat) (v : Value) (L : List UInt8) (q : Nat) (A7 : Option Addr) (n7 c7 : Nat) (lb : List Int) (no : Int) (v7 : Value) (x3 : Int) (A8 : Option Addr) (n8 c8 : Nat) (b20 : Nat) (A3 : Option Addr) (n3 c3 : Nat) (A9 : Option Addr) (n9 c9 : Nat) (ls : List Slt) (v9 : Value) (x4 : Int) : Prop where
  prev : K2 w W p g p2 v L q A7 n7 c7 lb no v7 x3 A8 n8 c8 b20 A3 n3 c3
  t9 : Trs W A9 n9 c9 ls
  e4 : ErrAt W v9 no x4
theorem K3.later {w W W' : World} {p g p2 : Nat} {v : Value} {L : List UInt8} {q : Nat} {A7 : Option Addr} {n7 c7 : Nat} {lb : List Int} {no : Int} {v7 : Value} {x3 : Int} {A8 : Option Addr} {n8 c8 : Nat} {b20 : Nat} {A3 : Option Addr} {n3 c3 : Nat} {A9 : Option Addr} {n9 c9 : Nat} {ls : List Slt} {v9 : Value} {x4 : Int} (h : K3 w W p g p2 v L q A7 n7 c7 lb no v7 x3 A8 n8 c8 b20 A3 n3 c3 A9 n9 c9 ls v9 x4) (hb : Below W.heap.size W W') : K3 w W' p g p2 v L q A7 n7 c7 lb no v7 x3 A8 n8 c8 b20 A3 n3 c3 A9 n9 c9 ls v9 x4 := ⟨h.prev.later hb, h.t9.below hb, h.e4.below hb⟩
structure K4 (w W : World) (p g p2 : Nat) (v : Value) (L : List UInt8) (q : Nat) (A7 : Option Addr) (n7 c7 : Nat) (lb : List Int) (no : Int) (v7 : Value) (x3 : Int) (A8 : Option Addr) (n8 c8 : Nat) (b20 : Nat) (A3 : Option Addr) (n3 c3 : Nat) (A9 : Option Addr) (n9 c9 : Nat) (ls : List Slt) (v9 : Value) (x4 : Int) (D9 : Option Addr) (m9 d9 : Nat) (b24 : Nat) (A4 : Option Addr) (n4 c4 : Nat) : Prop where
  prev : K3 w W p g p2 v L q A7 n7 c7 lb no v7 x3 A8 n8 c8 b20 A3 n3 c3 A9 n9 c9 ls v9 x4
  t10 : Trs W D9 m9 d9 ls
  f24 : FltAt W b24 (.slice A4 n4 c4) (.int .i64 x4)
  i24 : Ints W A4 n4 c4 (atL no x4)
theorem K4.later {w W W' : World} {p g p2 : Nat} {v : Value} {L : List UInt8} {q : Nat} {A7 : Option Addr} {n7 c7 : Nat} {lb : List Int} {no : Int} {v7 : Value} {x3 : Int} {A8 : Option Addr} {n8 c8 : Nat} {b20 : Nat} {A3 : Option Addr} {n3 c3 : Nat} {A9 : Option Addr} {n9 c9 : Nat} {ls : List Slt} {v9 : Value} {x4 : Int} {D9 : Option Addr} {m9 d9 : Nat} {b24 : Nat} {A4 : Option Addr} {n4 c4 : Nat} (h : K4 w W p g p2 v L q A7 n7 c7 lb no v7 x3 A8 n8 c8 b20 A3 n3 c3 A9 n9 c9 ls v9 x4 D9 m9 d9 b24 A4 n4 c4) (hb : Below W.heap.size W W') : K4 w W' p g p2 v L q A7 n7 c7 lb no v7 x3 A8 n8 c8 b20 A3 n3 c3 A9 n9 c9 ls v9 x4 D9 m9 d9 b24 A4 n4 c4 := ⟨h.prev.later hb, h.t10.below hb, h.f24.later hb, h.i24.below hb⟩

theorem R4.bel {w W : World} {p g p2 : Nat} {v : Value} {L : List UInt8} {q : Nat} {b9 : Nat} {f : Nat → Int} {v1 : Value} {x1 : Int} {b11 b12 : Nat} {A1 : Option Addr} {n1 c1 : Nat} {b13 : Nat} {tree : Int} {leaf : Bool} {ks : List Int} {vs : List (List UInt8)} {A5 : Option Addr} {n5 c5 : Nat} {A6 : Option Addr} {n6 c6 : Nat} {no : Int} {v4 : Value} {x2 : Int} {b15 b16 : Nat} {B5 : Option Addr} {m5 d5 : Nat} {B6 : Option Addr} {m6 d6 : Nat} {A2 : Option Addr} {n2 c2 : Nat} (h : R4 w W p g p2 v L q b9 f v1 x1 b11 b12 A1 n1 c1 b13 tree leaf ks vs A5 n5 c5 A6 n6 c6 no v4 x2 b15 b16 B5 m5 d5 B6 m6 d6 A2 n2 c2) : Below w.heap.size w W := h.prev.prev.prev.prev.two.bel
theorem K4.bel {w W : World} {p g p2 : Nat} {v : Value} {L : List UInt8} {q : Nat} {A7 : Option Addr} {n7 c7 : Nat} {lb : List Int} {no : Int} {v7 : Value} {x3 : Int} {A8 : Option Addr} {n8 c8 : Nat} {b20 : Nat} {A3 : Option Addr} {n3 c3 : Nat} {A9 : Option Addr} {n9 c9 : Nat} {ls : List Slt} {v9 : Value} {x4 : Int} {D9 : Option Addr} {m9 d9 : Nat} {b24 : Nat} {A4 : Option Addr} {n4 c4 : Nat} (h : K4 w W p g p2 v L q A7 n7 c7 lb no v7 x3 A8 n8 c8 b20 A3 n3 c3 A9 n9 c9 ls v9 x4 D9 m9 d9 b24 A4 n4 c4) : Below w.heap.size w W := h.prev.prev.prev.prev.two.bel

section
variable {w W : World} {p g p2 : Nat} {v : Value} {L : List UInt8} {q : Nat}
theorem rd_super (hL : L.length = q * 256) (h : R0 w W p g p2 v L q) : Calls Tryz.prog 10 #[.pointer (some ⟨p, 0, none⟩)] W fun e w' => ∃ f v1 x1, f = supF11 L q ∧ x1 = supE11 L q ∧ e = .returned (.tuple #[.agg #[.int .i64 (f 0), .int .i64 (f 1), .int .i64 (f 2), .int .i64 (f 3), .int .i64 (f 4), .int .i64 (f 5), .int .i64 (f 6), .int .i64 (f 7), .int .i64 (f 8), .int .i64 (f 9), .int .i64 (f 10)], v1]) ∧ R1 w (w'.alloc (.cells #[.int .i64 (f 0), .int .i64 (f 1), .int .i64 (f 2), .int .i64 (f 3), .int .i64 (f 4), .int .i64 (f 5), .int .i64 (f 6), .int .i64 (f 7), .int .i64 (f 8), .int .i64 (f 9), .int .i64 (f 10)] 29)) p g p2 v L q w'.heap.size f v1 x1 := by
  refine (blockSuper_any h.two.img hL).mono ?_
  rintro e w' ⟨v1, h1, h2, h3⟩
  exact ⟨_, v1, _, rfl, rfl, h1, (h.later h3).later (al1 _ _), heap_alloc_new w' _, h2.below (al1 _ _)⟩
theorem rd_rsuper {b9 : Nat} {f : Nat → Int} {v1 : Value} {x1 : Int} (hL : L.length = q * 256) (hf : f = supF11 L q) (hx : x1 = supE11 L q) (h : R1 w W p g p2 v L q b9 f v1 x1) : Calls Tryz.prog 11 #[.pointer (some ⟨p2, 0, none⟩)] W fun e w' => ∃ A1 n1 c1, e = .returned (.tuple #[.agg #[.int .i64 (f 0), .int .i64 (f 1), .int .i64 (f 2), .int .i64 (f 3), .int .i64 (f 4), .int .i64 (f 5), .int .i64 (f 6), .int .i64 (f 7), .int .i64 (f 8), .int .i64 (f 9), .int .i64 (f 10)], .agg #[.slice A1 n1 c1, .int .i64 x1]]) ∧ R2 w ((w'.alloc (.cells #[.int .i64 (f 0), .int .i64 (f 1), .int .i64 (f 2), .int .i64 (f 3), .int .i64 (f 4), .int .i64 (f 5), .int .i64 (f 6), .int .i64 (f 7), .int .i64 (f 8), .int .i64 (f 9), .int .i64 (f 10)] 29)).alloc (.cells #[.slice A1 n1 c1, .int .i64 x1] 36)) p g p2 v L q b9 f v1 x1 w'.heap.size (w'.heap.size + 1) A1 n1 c1 := by
  refine (ref11Super_any W h.prev.two.ref hL).mono ?_
  rw [← hf, ← hx]
  rintro e w' ⟨fv, h1, ⟨A1, n1, c1, rfl, h4⟩, h3⟩
  obtain ⟨k1, k2, k3⟩ := two_new w' (.cells #[.int .i64 (f 0), .int .i64 (f 1), .int .i64 (f 2), .int .i64 (f 3), .int .i64 (f 4), .int .i64 (f 5), .int .i64 (f 6), .int .i64 (f 7), .int .i64 (f 8), .int .i64 (f 9), .int .i64 (f 10)] 29) (.cells #[.slice A1 n1 c1, .int .i64 x1] 36)
  exact ⟨A1, n1, c1, h1, (h.later h3).later k3, k1, k2, h4.below k3⟩
theorem rd_node {b9 : Nat} {f : Nat → Int} {v1 : Value} {x1 : Int} {b11 b12 : Nat} {A1 : Option Addr} {n1 c1 : Nat} (no tr : Int) (hL : L.length = q * 256) (h : R2 w W p g p2 v L q b9 f v1 x1 b11 b12 A1 n1 c1) : Calls Tryz.prog 12 #[.pointer (some ⟨p, 0, none⟩), .int .i64 no, .int .i64 tr] W fun e w' => ∃ tree leaf ks vs A5 n5 c5 A6 n6 c6 v4 x2, nodN11 L q no tr = ⟨tree, leaf, ks, vs⟩ ∧ x2 = nodE11 L q no tr ∧ e = .returned (.tuple #[.agg #[.int .i64 tree, .bool leaf, .slice A5 n5 c5, .slice A6 n6 c6], v4]) ∧ R3 w (w'.alloc (.cells #[.int .i64 tree, .bool leaf, .slice A5 n5 c5, .slice A6 n6 c6] 41)) p g p2 v L q b9 f v1 x1 b11 b12 A1 n1 c1 w'.heap.size tree leaf ks vs A5 n5 c5 A6 n6 c6 no v4 x2 := by
  refine (blockNode_any no tr h.prev.prev.two.img hL).mono ?_
  rintro e w' ⟨v4, A5, n5, c5, A6, n6, c6, h1, h2, h3, h4⟩
  generalize nodE11 L q no tr = x2 at *
  generalize nodN11 L q no tr = nd at *
  obtain ⟨tree, leaf, ks, vs⟩ := nd
  exact ⟨tree, leaf, ks, vs, A5, n5, c5, A6, n6, c6, v4, x2, rfl, rfl, h1, (h.later h4).later (al1 _ _), heap_alloc_new w' _, h2.below (al1 _ _), h3.below (al1 _ _)⟩
theorem rd_rnode {b9 : Nat} {f : Nat → Int} {v1 : Value} {x1 : Int} {b11 b12 : Nat} {A1 : Option Addr} {n1 c1 : Nat} {b13 : Nat} {tree : Int} {leaf : Bool} {ks : List Int} {vs : List (List UInt8)} {A5 : Option Addr} {n5 c5 : Nat} {A6 : Option Addr} {n6 c6 : Nat} {no : Int} {v4 : Value} {x2 : Int} (tr : Int) (hL : L.length = q * 256) (hn : nodN11 L q no tr = ⟨tree, leaf, ks, vs⟩) (hx : x2 = nodE11 L q no tr) (h : R3 w W p g p2 v L q b9 f v1 x1 b11 b12 A1 n1 c1 b13 tree leaf ks vs A5 n5 c5 A6 n6 c6 no v4 x2) : Calls Tryz.prog 13 #[.pointer (some ⟨p2, 0, none⟩), .int .i64 no, .int .i64 tr] W fun e w' => ∃ B5 m5 d5 B6 m6 d6 A2 n2 c2, e = .returned (.tuple #[.agg #[.int .i64 tree, .bool leaf, .slice B5 m5 d5, .slice B6 m6 d6], .agg #[.slice A2 n2 c2, .int .i64 x2]]) ∧ R4 w ((w'.alloc (.cells #[.int .i64 tree, .bool leaf, .slice B5 m5 d5, .slice B6 m6 d6] 41)).alloc (.cells #[.slice A2 n2 c2, .int .i64 x2] 36)) p g p2 v L q b9 f v1 x1 b11 b12 A1 n1 c1 b13 tree leaf ks vs A5 n5 c5 A6 n6 c6 no v4 x2 w'.heap.size (w'.heap.size + 1) B5 m5 d5 B6 m6 d6 A2 n2 c2 := by
  refine (ref11Node_any no tr W h.prev.prev.prev.two.ref hL).mono ?_
  rw [hn, ← hx]
  rintro e w' ⟨fv, B5, m5, d5, B6, m6, d6, h1, h2, ⟨A2, n2, c2, rfl, h4⟩, h3⟩
  obtain ⟨k1, k2, k3⟩ := two_new w' (.cells #[.int .i64 tree, .bool leaf, .slice B5 m5 d5, .slice B6 m6 d6] 41) (.cells #[.slice A2 n2 c2, .int .i64 x2] 36)
  exact ⟨B5, m5, d5, B6, m6, d6, A2, n2, c2, h1, (h.later h3).later k3, k1, h2.below k3, k2, h4.below k3⟩
theorem rd_same1 {b9 : Nat} {f : Nat → Int} {v1 : Value} {x1 : Int} {b11 b12 : Nat} {A1 : Option Addr} {n1 c1 : Nat} {b13 : Nat} {tree : Int} {leaf : Bool} {ks : List Int} {vs : List (List UInt8)} {A5 : Option Addr} {n5 c5 : Nat} {A6 : Option Addr} {n6 c6 : Nat} {no : Int} {v4 : Value} {x2 : Int} {b15 b16 : Nat} {B5 : Option Addr} {m5 d5 : Nat} {B6 : Option Addr} {m6 d6 : Nat} {A2 : Option Addr} {n2 c2 : Nat} (hg : ErrT w) (h : R4 w W p g p2 v L q b9 f v1 x1 b11 b12 A1 n1 c1 b13 tree leaf ks vs A5 n5 c5 A6 n6 c6 no v4 x2 b15 b16 B5 m5 d5 B6 m6 d6 A2 n2 c2) : Calls Tryz.prog 14 #[v1, .agg #[.slice A1 n1 c1, .int .i64 x1]] W fun e w' => e = .returned (.bool true) ∧ R4 w w' p g p2 v L q b9 f v1 x1 b11 b12 A1 n1 c1 b13 tree leaf ks vs A5 n5 c5 A6 n6 c6 no v4 x2 b15 b16 B5 m5 d5 B6 m6 d6 A2 n2 c2 :=
  (same11_any W h.prev.prev.prev.e1 ⟨A1, n1, c1, rfl, h.prev.prev.i12⟩ (hg.later h.bel)).mono fun e w' ⟨h1, h2⟩ => ⟨h1, h.later h2⟩
theorem rd_same2 {b9 : Nat} {f : Nat → Int} {v1 : Value} {x1 : Int} {b11 b12 : Nat} {A1 : Option Addr} {n1 c1 : Nat} {b13 : Nat} {tree : Int} {leaf : Bool} {ks : List Int} {vs : List (List UInt8)} {A5 : Option Addr} {n5 c5 : Nat} {A6 : Option Addr} {n6 c6 : Nat} {no : Int} {v4 : Value} {x2 : Int} {b15 b16 : Nat} {B5 : Option Addr} {m5 d5 : Nat} {B6 : Option Addr} {m6 d6 : Nat} {A2 : Option Addr} {n2 c2 : Nat} (hg : ErrT w) (h : R4 w W p g p2 v L q b9 f v1 x1 b11 b12 A1 n1 c1 b13 tree leaf ks vs A5 n5 c5 A6 n6 c6 no v4 x2 b15 b16 B5 m5 d5 B6 m6 d6 A2 n2 c2) : Calls Tryz.prog 14 #[v4, .agg #[.slice A2 n2 c2, .int .i64 x2]] W fun e w' => e = .returned (.bool true) ∧ R4 w w' p g p2 v L q b9 f v1 x1 b11 b12 A1 n1 c1 b13 tree leaf ks vs A5 n5 c5 A6 n6 c6 no v4 x2 b15 b16 B5 m5 d5 B6 m6 d6 A2 n2 c2 :=
  (same11_any W h.prev.e2 ⟨A2, n2, c2, rfl, h.i16⟩ (hg.later h.bel)).mono fun e w' ⟨h1, h2⟩ => ⟨h1, h.later h2⟩
theorem rd_same7 {b9 : Nat} {f : Nat → Int} {v1 : Value} {x1 : Int} {b11 b12 : Nat} {A1 : Option Addr} {n1 c1 : Nat} {b13 : Nat} {tree : Int} {leaf : Bool} {ks : List Int} {vs : List (List UInt8)} {A5 : Option Addr} {n5 c5 : Nat} {A6 : Option Addr} {n6 c6 : Nat} {no : Int} {v4 : Value} {x2 : Int} {b15 b16 : Nat} {B5 : Option Addr} {m5 d5 : Nat} {B6 : Option Addr} {m6 d6 : Nat} {A2 : Option Addr} {n2 c2 : Nat} (h : R4 w W p g p2 v L q b9 f v1 x1 b11 b12 A1 n1 c1 b13 tree leaf ks vs A5 n5 c5 A6 n6 c6 no v4 x2 b15 b16 B5 m5 d5 B6 m6 d6 A2 n2 c2) : Calls Tryz.prog 15 #[.agg #[.int .i64 tree, .bool leaf, .slice A5 n5 c5, .slice A6 n6 c6], .agg #[.int .i64 tree, .bool leaf, .slice B5 m5 d5, .slice B6 m6 d6]] W fun e w' => e = .returned (.bool true) ∧ R4 w w' p g p2 v L q b9 f v1 x1 b11 b12 A1 n1 c1 b13 tree leaf ks vs A5 n5 c5 A6 n6 c6 no v4 x2 b15 b16 B5 m5 d5 B6 m6 d6 A2 n2 c2 :=
  (refSame_any7 W ⟨tree, leaf, ks, vs⟩ ⟨tree, leaf, ks, vs⟩ A5 n5 c5 A6 n6 c6 B5 m5 d5 B6 m6 d6 h.prev.in13 h.in15 true (sameN_refl _)).mono fun e w' ⟨h1, h2⟩ => ⟨h1, h.later h2⟩
theorem rd_bits (no : Int) (hL : L.length = q * 256) (h : R0 w W p g p2 v L q) : Calls Tryz.prog 16 #[.pointer (some ⟨p, 0, none⟩), .int .i64 no] W fun e w' => ∃ A7 n7 c7 lb v7 x3, lb = bitL11 L q no ∧ x3 = bitE11 L q no ∧ e = .returned (.tuple #[.slice A7 n7 c7, v7]) ∧ K1 w w' p g p2 v L q A7 n7 c7 lb no v7 x3 := by
  refine (blockBits_any no h.two.img hL).mono ?_
  rintro e w' ⟨A7, n7, c7, v7, h1, h2, h3, h4⟩
  exact ⟨A7, n7, c7, _, v7, _, rfl, rfl, h1, h.later h4, h2, h3⟩
theorem rd_rbits {A7 : Option Addr} {n7 c7 : Nat} {lb : List Int} {no : Int} {v7 : Value} {x3 : Int} (hL : L.length = q * 256) (hf : lb = bitL11 L q no) (hx : x3 = bitE11 L q no) (h : K1 w W p g p2 v L q A7 n7 c7 lb no v7 x3) : Calls Tryz.prog 17 #[.pointer (some ⟨p2, 0, none⟩), .int .i64 no] W fun e w' => ∃ A8 n8 c8 A3 n3 c3, e = .returned (.tuple #[.slice A8 n8 c8, .agg #[.slice A3 n3 c3, .int .i64 x3]]) ∧ K2 w (w'.alloc (.cells #[.slice A3 n3 c3, .int .i64 x3] 36)) p g p2 v L q A7 n7 c7 lb no v7 x3 A8 n8 c8 w'.heap.size A3 n3 c3 := by
  refine (ref11Bits_any no W h.prev.two.ref hL).mono ?_
  rw [← hf, ← hx]
  rintro e w' ⟨A8, n8, c8, fv, h1, h2, ⟨A3, n3, c3, rfl, h4⟩, h3⟩
  exact ⟨A8, n8, c8, A3, n3, c3, h1, (h.later h3).later (al1 _ _), h2.below (al1 _ _), heap_alloc_new w' _, h4.below (al1 _ _)⟩
theorem rd_index {A7 : Option Addr} {n7 c7 : Nat} {lb : List Int} {no : Int} {v7 : Value} {x3 : Int} {A8 : Option Addr} {n8 c8 : Nat} {b20 : Nat} {A3 : Option Addr} {n3 c3 : Nat} (hL : L.length = q * 256) (h : K2 w W p g p2 v L q A7 n7 c7 lb no v7 x3 A8 n8 c8 b20 A3 n3 c3) : Calls Tryz.prog 18 #[.pointer (some ⟨p, 0, none⟩), .int .i64 no] W fun e w' => ∃ A9 n9 c9 ls v9 x4, ls = sltL11 L q no ∧ x4 = sltE11 L q no ∧ e = .returned (.tuple #[.slice A9 n9 c9, v9]) ∧ K3 w w' p g p2 v L q A7 n7 c7 lb no v7 x3 A8 n8 c8 b20 A3 n3 c3 A9 n9 c9 ls v9 x4 := by
  refine (blockIndex_any no h.prev.prev.two.img hL).mono ?_
  rintro e w' ⟨A9, n9, c9, v9, h1, h2, h3, h4⟩
  exact ⟨A9, n9, c9, _, v9, _, rfl, rfl, h1, h.later h4, h2, h3⟩
theorem rd_rindex {A7 : Option Addr} {n7 c7 : Nat} {lb : List Int} {no : Int} {v7 : Value} {x3 : Int} {A8 : Option Addr} {n8 c8 : Nat} {b20 : Nat} {A3 : Option Addr} {n3 c3 : Nat} {A9 : Option Addr} {n9 c9 : Nat} {ls : List Slt} {v9 : Value} {x4 : Int} (hL : L.length = q * 256) (hf : ls = sltL11 L q no) (hx : x4 = sltE11 L q no) (h : K3 w W p g p2 v L q A7 n7 c7 lb no v7 x3 A8 n8 c8 b20 A3 n3 c3 A9 n9 c9 ls v9 x4) : Calls Tryz.prog 19 #[.pointer (some ⟨p2, 0, none⟩), .int .i64 no] W fun e w' => ∃ D9 m9 d9 A4 n4 c4, e = .returned (.tuple #[.slice D9 m9 d9, .agg #[.slice A4 n4 c4, .int .i64 x4]]) ∧ K4 w (w'.alloc (.cells #[.slice A4 n4 c4, .int .i64 x4] 36)) p g p2 v L q A7 n7 c7 lb no v7 x3 A8 n8 c8 b20 A3 n3 c3 A9 n9 c9 ls v9 x4 D9 m9 d9 w'.heap.size A4 n4 c4 := by
  refine (ref11Index_any no W h.prev.prev.prev.two.ref hL).mono ?_
  rw [← hf, ← hx]
  rintro e w' ⟨D9, m9, d9, fv, h1, h2, ⟨A4, n4, c4, rfl, h4⟩, h3⟩
  exact ⟨D9, m9, d9, A4, n4, c4, h1, (h.later h3).later (al1 _ _), h2.below (al1 _ _), heap_alloc_new w' _, h4.below (al1 _ _)⟩
theorem rd_same3 {A7 : Option Addr} {n7 c7 : Nat} {lb : List Int} {no : Int} {v7 : Value} {x3 : Int} {A8 : Option Addr} {n8 c8 : Nat} {b20 : Nat} {A3 : Option Addr} {n3 c3 : Nat} {A9 : Option Addr} {n9 c9 : Nat} {ls : List Slt} {v9 : Value} {x4 : Int} {D9 : Option Addr} {m9 d9 : Nat} {b24 : Nat} {A4 : Option Addr} {n4 c4 : Nat} (hg : ErrT w) (h : K4 w W p g p2 v L q A7 n7 c7 lb no v7 x3 A8 n8 c8 b20 A3 n3 c3 A9 n9 c9 ls v9 x4 D9 m9 d9 b24 A4 n4 c4) : Calls Tryz.prog 14 #[v7, .agg #[.slice A3 n3 c3, .int .i64 x3]] W fun e w' => e = .returned (.bool true) ∧ K4 w w' p g p2 v L q A7 n7 c7 lb no v7 x3 A8 n8 c8 b20 A3 n3 c3 A9 n9 c9 ls v9 x4 D9 m9 d9 b24 A4 n4 c4 :=
  (same11_any W h.prev.prev.prev.e3 ⟨A3, n3, c3, rfl, h.prev.prev.i20⟩ (hg.later h.bel)).mono fun e w' ⟨h1, h2⟩ => ⟨h1, h.later h2⟩
theorem rd_same4 {A7 : Option Addr} {n7 c7 : Nat} {lb : List Int} {no : Int} {v7 : Value} {x3 : Int} {A8 : Option Addr} {n8 c8 : Nat} {b20 : Nat} {A3 : Option Addr} {n3 c3 : Nat} {A9 : Option Addr} {n9 c9 : Nat} {ls : List Slt} {v9 : Value} {x4 : Int} {D9 : Option Addr} {m9 d9 : Nat} {b24 : Nat} {A4 : Option Addr} {n4 c4 : Nat} (hg : ErrT w) (h : K4 w W p g p2 v L q A7 n7 c7 lb no v7 x3 A8 n8 c8 b20 A3 n3 c3 A9 n9 c9 ls v9 x4 D9 m9 d9 b24 A4 n4 c4) : Calls Tryz.prog 14 #[v9, .agg #[.slice A4 n4 c4, .int .i64 x4]] W fun e w' => e = .returned (.bool true) ∧ K4 w w' p g p2 v L q A7 n7 c7 lb no v7 x3 A8 n8 c8 b20 A3 n3 c3 A9 n9 c9 ls v9 x4 D9 m9 d9 b24 A4 n4 c4 :=
  (same11_any W h.prev.e4 ⟨A4, n4, c4, rfl, h.i24⟩ (hg.later h.bel)).mono fun e w' ⟨h1, h2⟩ => ⟨h1, h.later h2⟩
theorem rd_sameI {A7 : Option Addr} {n7 c7 : Nat} {lb : List Int} {no : Int} {v7 : Value} {x3 : Int} {A8 : Option Addr} {n8 c8 : Nat} {b20 : Nat} {A3 : Option Addr} {n3 c3 : Nat} {A9 : Option Addr} {n9 c9 : Nat} {ls : List Slt} {v9 : Value} {x4 : Int} {D9 : Option Addr} {m9 d9 : Nat} {b24 : Nat} {A4 : Option Addr} {n4 c4 : Nat} (h : K4 w W p g p2 v L q A7 n7 c7 lb no v7 x3 A8 n8 c8 b20 A3 n3 c3 A9 n9 c9 ls v9 x4 D9 m9 d9 b24 A4 n4 c4) : Calls Tryz.prog 20 #[.slice A7 n7 c7, .slice A8 n8 c8] W fun e w' => e = .returned (.bool true) ∧ K4 w w' p g p2 v L q A7 n7 c7 lb no v7 x3 A8 n8 c8 b20 A3 n3 c3 A9 n9 c9 ls v9 x4 D9 m9 d9 b24 A4 n4 c4 := by
  have e : n7 = n8 := h.prev.prev.prev.i7.len.symm.trans h.prev.prev.i8.len
  have h8 := h.prev.prev.i8
  rw [← e] at h8
  rw [← e]
  refine (Same_same A7 A8 n7 c7 c8 lb W h.prev.prev.prev.i7 h8).mono ?_
  rintro e2 w' ⟨h1, h2⟩
  exact ⟨h1, by have := h.later h2; rw [← e] at this; exact this⟩
theorem rd_sameT {A7 : Option Addr} {n7 c7 : Nat} {lb : List Int} {no : Int} {v7 : Value} {x3 : Int} {A8 : Option Addr} {n8 c8 : Nat} {b20 : Nat} {A3 : Option Addr} {n3 c3 : Nat} {A9 : Option Addr} {n9 c9 : Nat} {ls : List Slt} {v9 : Value} {x4 : Int} {D9 : Option Addr} {m9 d9 : Nat} {b24 : Nat} {A4 : Option Addr} {n4 c4 : Nat} (h : K4 w W p g p2 v L q A7 n7 c7 lb no v7 x3 A8 n8 c8 b20 A3 n3 c3 A9 n9 c9 ls v9 x4 D9 m9 d9 b24 A4 n4 c4) : Calls Tryz.prog 21 #[.slice A9 n9 c9, .slice D9 m9 d9] W fun e w' => e = .returned (.bool true) ∧ K4 w w' p g p2 v L q A7 n7 c7 lb no v7 x3 A8 n8 c8 b20 A3 n3 c3 A9 n9 c9 ls v9 x4 D9 m9 d9 b24 A4 n4 c4 := by
  have e : n9 = m9 := h.prev.t9.len.symm.trans h.t10.len
  subst e
  exact (refSlSame_any A9 n9 c9 D9 d9 ls W h.prev.t9 h.t10).mono fun e2 w' ⟨h1, h2⟩ => ⟨h1, h.later h2⟩
theorem rd_lives {A7 : Option Addr} {n7 c7 : Nat} {lb : List Int} {no : Int} {v7 : Value} {x3 : Int} {A8 : Option Addr} {n8 c8 : Nat} {b20 : Nat} {A3 : Option Addr} {n3 c3 : Nat} {A9 : Option Addr} {n9 c9 : Nat} {ls : List Slt} {v9 : Value} {x4 : Int} {D9 : Option Addr} {m9 d9 : Nat} {b24 : Nat} {A4 : Option Addr} {n4 c4 : Nat} (hp : Pow w) (h : K4 w W p g p2 v L q A7 n7 c7 lb no v7 x3 A8 n8 c8 b20 A3 n3 c3 A9 n9 c9 ls v9 x4 D9 m9 d9 b24 A4 n4 c4) : Calls Tryz.prog 7 #[] W fun e w' => e = .returned (.bool true) ∧ Below w.heap.size w w' :=
  (lives11_any W (hp.later h.bel)).mono fun e w' ⟨h1, h2⟩ => ⟨h1, h.bel.trans (h2.mono h.bel.size)⟩
end

set_option maxRecDepth 100000 in
set_option maxHeartbeats 1600000 in
theorem reads_long (A : Option Addr) (n c : Nat) (no tr : Int) (w : World) (hn : n ≤ 9223372036854775807) (h : 6000 < n) (hp : Pow w) :
    Calls Tryz.prog 3 #[.slice A n c, .int .i64 no, .int .i64 tr] w fun e w' => e = .returned (.bool true) ∧ Below w.heap.size w w' := by
  have LV := Lib.hid (lives11_any w hp)
  clear hp
  go_enter Tryz.func3, Tryz.ntmps3
  go_wp2_with (go_at_call 7; (with_reducible refine (LV.out).mono ?_); rintro e w1 ⟨rfl, hb1⟩)
  go_ret
  exact ⟨rfl, hb1⟩

set_option maxRecDepth 100000 in
set_option maxHeartbeats 6400000 in
theorem reads_short (A : Option Addr) (n c : Nat) (l : List UInt8) (no tr : Int) (w : World) (h : Bytes8 w A n c l) (hn : n ≤ 6000) (hg : ErrT w) (hp : Pow w) :
    Calls Tryz.prog 3 #[.slice A n c, .int .i64 no, .int .i64 tr] w fun e w' => e = .returned (.bool true) ∧ Below w.heap.size w w' := by
  have hlen := h.len
  obtain ⟨q, hq⟩ : ∃ q, q = n / 256 := ⟨_, rfl⟩
  have hL : (l.take (q * 256)).length = q * 256 := by rw [List.length_take]; omega
  have FO : Hid (Calls Tryz.prog 8 #[.slice A n c] w fun e w' => ∃ p g, e = .returned (.pointer (some ⟨p, 0, none⟩)) ∧ Img w' w.heap.size p g (l.take (q * 256)) ∧ Below w.heap.size w w') := by
    have := Of_any _ n c l w h
    rwa [whole_small hn, ← hq] at this
  have FR : Hid (∀ W p g, Below w.heap.size w W → Img W w.heap.size p g (l.take (q * 256)) → Calls Tryz.prog 9 #[.slice A n c] W fun e w' => ∃ p2 v, e = .returned (.pointer (some ⟨p2, 0, none⟩)) ∧ R0 w w' p g p2 v (l.take (q * 256)) q) := fun W p g hb hi => by
    have := refOf_any A n c l W (h.below hb) hn
    have e : blks l q = blks (l.take (q * 256)) q := by
      unfold blks
      exact List.map_congr_left fun j hj => (blk_take (List.mem_range.1 hj)).symm
    rw [← hq, e] at this
    refine this.mono ?_
    rintro e w' ⟨v, h1, hr, hb2⟩
    exact ⟨W.heap.size, v, h1, hb.trans (hb2.mono hb.size), hi.later hb2, ⟨Nat.le_trans hb.size hr.bp, hr.hp, hr.own⟩⟩
  generalize l.take (q * 256) = L at *
  have HL := Lib.hid hL
  have HG := Lib.hid hg
  have HP := Lib.hid hp
  clear h hlen hq hL hg hp
  go_enter Tryz.func3, Tryz.ntmps3
  go_wp2_with (first
    | (go_at_call 8; (with_reducible refine (FO.out).mono ?_); rintro e w1 ⟨p, g, rfl, hI1, hb1⟩)
    | (go_at_call 9; (with_reducible refine (FR.out _ _ _ hb1 hI1).mono ?_); rintro e w2 ⟨p2, v, rfl, hT2⟩)
    | (go_at_call 10; (with_reducible refine (rd_super HL.out hT2).mono ?_); rintro e w3 ⟨f, v1, x1, hf, hx, rfl, hR1⟩; have HF := Lib.hid hf; have HX := Lib.hid hx; clear hf hx)
    | (go_at_call 11; (with_reducible refine (rd_rsuper HL.out HF.out HX.out hR1).mono ?_); rintro e w4 ⟨A1, n1, c1, rfl, hR2⟩)
    | (go_at_call 12; (with_reducible refine (rd_node no tr HL.out hR2).mono ?_); rintro e w5 ⟨tree, leaf, ks, vs, A5, n5, c5, A6, n6, c6, v4, x2, hnd, hx2, rfl, hR3⟩; have HND := Lib.hid hnd; have HX2 := Lib.hid hx2; clear hnd hx2)
    | (go_at_call 13; (with_reducible refine (rd_rnode tr HL.out HND.out HX2.out hR3).mono ?_); rintro e w6 ⟨B5, m5, d5, B6, m6, d6, A2, n2, c2, rfl, hR4⟩; obtain ⟨s0, s1, s2, s3, s4, s5, s6, s7, s8, s9, s10⟩ := hR4.prev.prev.prev.s9.cs; obtain ⟨t0, t1, t2, t3, t4, t5, t6, t7, t8, t9, t10⟩ := hR4.prev.prev.s11.cs; obtain ⟨⟨k0, k1⟩, _, _⟩ := hR4.prev.prev.f12.cs)
    | (go_at_call 14; first
      | ((with_reducible refine (rd_same1 HG.out hR4).mono ?_); rintro e w7 ⟨rfl, hR5⟩; obtain ⟨⟨a0, a1, a2, a3⟩, _, _, _, _⟩ := hR5.prev.n13.cs; obtain ⟨⟨g0, g1, g2, g3⟩, _, _, _, _⟩ := hR5.n15.cs)
      | ((with_reducible refine (rd_same2 HG.out hR6).mono ?_); rintro e w9 ⟨rfl, hR7⟩; have hT9 := hR7.prev.prev.prev.prev)
      | ((with_reducible refine (rd_same3 HG.out hK5).mono ?_); rintro e w15 ⟨rfl, hK6⟩)
      | ((with_reducible refine (rd_same4 HG.out hK7).mono ?_); rintro e w17 ⟨rfl, hK8⟩))
    | (go_at_call 15; (with_reducible refine (rd_same7 hR5).mono ?_); rintro e w8 ⟨rfl, hR6⟩; obtain ⟨⟨k2, k3⟩, _, _⟩ := hR6.f16.cs)
    | (go_at_call 16; (with_reducible refine (rd_bits no HL.out hT9).mono ?_); rintro e w10 ⟨A7, n7, c7, lb, v7, x3, hlb, hx3, rfl, hK1⟩; have HLB := Lib.hid hlb; have HX3 := Lib.hid hx3; clear hlb hx3)
    | (go_at_call 17; (with_reducible refine (rd_rbits HL.out HLB.out HX3.out hK1).mono ?_); rintro e w11 ⟨A8, n8, c8, A3, n3, c3, rfl, hK2⟩)
    | (go_at_call 18; (with_reducible refine (rd_index HL.out hK2).mono ?_); rintro e w12 ⟨A9, n9, c9, ls, v9, x4, hls, hx4, rfl, hK3⟩; have HLS := Lib.hid hls; have HX4 := Lib.hid hx4; clear hls hx4)
    | (go_at_call 19; (with_reducible refine (rd_rindex HL.out HLS.out HX4.out hK3).mono ?_); rintro e w13 ⟨D9, m9, d9, A4, n4, c4, rfl, hK4⟩)
    | (go_at_call 20; (with_reducible refine (rd_sameI hK4).mono ?_); rintro e w14 ⟨rfl, hK5⟩; obtain ⟨⟨l0, l1⟩, _, _⟩ := hK5.prev.prev.f20.cs)
    | (go_at_call 21; (with_reducible refine (rd_sameT hK6).mono ?_); rintro e w16 ⟨rfl, hK7⟩; obtain ⟨⟨l2, l3⟩, _, _⟩ := hK7.f24.cs)
    | (go_at_call 7; (with_reducible refine (rd_lives HP.out hK8).mono ?_); rintro e w18 ⟨rfl, hb18⟩))
  go_ret
  exact ⟨rfl, hb18⟩

theorem blockreads_walk (A : Option Addr) (n c : Nat) (l : List UInt8) (no tr : Int) (w : World) (h : Bytes8 w A n c l) (_hn : -9223372036854775808 ≤ no ∧ no ≤ 9223372036854775807) (_ht : -9223372036854775808 ≤ tr ∧ tr ≤ 9223372036854775807) (hg : ErrT w) (hp : Pow w) :
    Calls Tryz.prog 3 #[.slice A n c, .int .i64 no, .int .i64 tr] w fun e w' => e = .returned (.bool true) ∧ Below w.heap.size w w' := by
  by_cases hs : n ≤ 6000
  · exact reads_short A n c l no tr w h hs hg hp
  · exact reads_long A n c no tr w h.le (by omega) hp

end Go.Proofs.YtbeobbanppkmhaaGreatDoor
