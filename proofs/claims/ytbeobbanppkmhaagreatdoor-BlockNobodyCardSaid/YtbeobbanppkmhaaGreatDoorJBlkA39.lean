/-
  Joined: BlkV, BlkLawA, BlkLawB, BlkLawD.
-/
import Derived.Test.YtbeobbanppkmhaaGreatDoorJBlkA38
import Derived.Test.YtbeobbanppkmhaaGreatDoorJBlkA37
import Derived.Test.YtbeobbanppkmhaaGreatDoorJBlkA03
import Derived.Test.YtbeobbanppkmhaaGreatDoorJBlkA30
import Derived.Test.YtbeobbanppkmhaaGreatDoorJBlkA02
import Derived.Deep.RegionWith
import Derived.Test.YtbeobbanppkmhaaGreatDoorJBlkA23
import Derived.Test.YtbeobbanppkmhaaGreatDoorJBlkA31
import Derived.Test.YtbeobbanppkmhaaGreatDoorJBlkA11
/-
  Layer 11: the document's example, and what was written is read.
-/
namespace Go.Proofs.YtbeobbanppkmhaaGreatDoor
open Go.RowKit
set_option linter.unusedVariables false
set_option linter.unusedSimpArgs false

/-- a program's error at a block, as links -/
theorem ErrAt.err {w : World} {v : Value} {no x : Int} (h : ErrAt w v no x) (hx : x ≠ 0) : ∃ p, v = .iface 69 (.pointer (some ⟨p, 0, none⟩)) ∧ Good w [.flt no p, .num x] := by
  rcases h with ⟨h, _⟩ | ⟨_, h⟩
  · exact absurd h hx
  · exact h
theorem ErrAt.nil {w : World} {v : Value} {no : Int} (h : ErrAt w v no 0) : v = .nilIface := by
  rcases h with ⟨_, h⟩ | ⟨h, _⟩
  · exact h
  · exact absurd rfl h

/-- the example's bytes -/
abbrev liveP : List UInt8 := [1, 0, 0, 0, 2] ++ List.replicate 239 0
theorem liveP_enc : encBits [2] = liveP := by decide +kernel
theorem liveP_len : liveP.length = 244 := by decide +kernel
abbrev liveZ : List UInt8 := List.replicate 512 0
abbrev liveL : List UInt8 := wrL11 liveZ 2 1 3 liveP
theorem live_write : wrE11 2 1 3 liveP = 0 := by
  rw [wrE11_ok (by rw [liveP_len]; decide)]
  decide
theorem live_len : liveL.length = 2 * 256 := wrL11_length (by decide +kernel)
theorem live_read : bitE11 liveL 2 1 = 0 ∧ bitL11 liveL 2 1 = [2] := by
  obtain ⟨h1, h2⟩ := in_written (L := liveZ) (n := 2) (no := 1) (kind := 3) (l := liveP) (by decide +kernel) live_write
  rw [liveP_len, List.replicate_zero, List.append_nil] at h2
  have ok : okB9 [2] = true := by decide
  unfold bitE11 bitL11
  rw [h2, h1, if_neg (by simp), if_neg (by simp), ← liveP_enc]
  refine ⟨bits_readE ok, ?_⟩
  rw [readBL9, if_pos (bits_readE ok)]
  exact bits_read ok
theorem live_node : nodE11 liveZ 2 9 0 = 3 ∧ nodN11 liveZ 2 9 0 = Nod.zero := by
  have h : nodE11 liveZ 2 9 0 = 3 := by
    rw [nodE11, inE11, show outB 2 9 = true by decide]
    rfl
  exact ⟨h, by rw [nodN11, h, if_neg (by decide)]⟩
/-- the example's text -/
def live11T : List UInt8 := [98, 108, 111, 99, 107, 32, 57, 58, 32, 101, 114, 114, 111, 114, 32, 51]
theorem text_live11 (p : Nat) : textOf [.flt 9 p, .num 3] = live11T := by
  have d : ∀ u, u < 10 → Lib.decDigits u = [UInt8.ofNat (48 + u)] := fun u h => by rw [Lib.decDigits, dif_pos h]
  have h9 : Lib.itoa 9 = [57] := d 9 (by decide)
  have h3 : Lib.itoa 3 = [51] := d 3 (by decide)
  simp only [textOf, h9, h3]
  rfl

/-- an image in a later world -/
structure LvS (w W : World) (p g : Nat) (L : List UInt8) : Prop where
  bel : Below w.heap.size w W
  img : Img W w.heap.size p g L
theorem LvS.later {w W W' : World} {p g : Nat} {L : List UInt8} (h : LvS w W p g L) (hb : Below W.heap.size W W') : LvS w W' p g L := ⟨h.bel.trans (hb.mono h.bel.size), h.img.later hb⟩
/-- a block of the image is no Fault -/
theorem Img.nofault {w : World} {B p g : Nat} {L : List UInt8} (h : Img w B p g L) (c : Array Value) : w.heap[g]? ≠ some (Obj.cells c 74 (0, 0)) := fun e => by
  rw [h.hg] at e
  injection e with e
  injection e with _ e2 _
  exact absurd e2 (by decide)

section
variable {w : World}
theorem lv_of (W : World) (g0 : Nat) (hO : Own8 W w.heap.size g0 liveZ) (hb : Below w.heap.size w W) : Calls Tryz.prog 8 #[.slice (some ⟨g0, 0, none⟩) 512 512] W fun e w' => ∃ p g, e = .returned (.pointer (some ⟨p, 0, none⟩)) ∧ LvS w w' p g liveZ := by
  refine (Of_any _ 512 512 liveZ W (hO.bytes (n := 512) List.length_replicate (by omega))).mono ?_
  rintro e w' ⟨p, g, h1, h2, h3⟩
  refine ⟨p, g, h1, hb.trans (h3.mono hb.size), ?_⟩
  rw [show whole 512 * 256 = 512 by decide, List.take_of_length_le (by simp)] at h2
  exact h2.down hb.size
theorem lv_node (W : World) (p g : Nat) (h : LvS w W p g liveZ) : Calls Tryz.prog 12 #[.pointer (some ⟨p, 0, none⟩), .int .i64 9, .int .i64 0] W fun e w' => ∃ q A5 n5 c5 A6 n6 c6, e = .returned (.tuple #[.agg #[.int .i64 0, .bool false, .slice A5 n5 c5, .slice A6 n6 c6], .iface 69 (.pointer (some ⟨q, 0, none⟩))]) ∧ Good w' [.flt 9 q, .num 3] ∧ LvS w w' p g liveZ := by
  refine (blockNode_any (n := 2) 9 0 h.img (by decide +kernel)).mono ?_
  rintro e w' ⟨v, A5, n5, c5, A6, n6, c6, h1, h2, h3, h4⟩
  rw [live_node.1] at h3
  rw [live_node.2] at h1
  obtain ⟨q, rfl, hG⟩ := h3.err (by decide)
  exact ⟨q, A5, n5, c5, A6, n6, c6, h1, hG, h.later h4⟩
theorem lv_write (W : World) (p g q : Nat) (A : Option Addr) (c : Nat) (h : LvS w W p g liveZ) (hG : Good W [.flt 9 q, .num 3]) (hB : Bytes8 W A 244 c liveP) : Calls Tryz.prog 22 #[.pointer (some ⟨p, 0, none⟩), .int .i64 1, .int .i64 3, .slice A 244 c] W fun e w' => e = .returned .nilIface ∧ Good w' [.flt 9 q, .num 3] ∧ LvS w w' p g liveL := by
  refine (blockWrite_any (n := 2) 1 3 h.img (by decide +kernel) hB).mono ?_
  rintro e w' ⟨v, rfl, hE, hI, hg⟩
  rw [live_write] at hE
  exact ⟨by rw [hE.nil], hG.same (Keeps.of_grown hg h.img.nofault), h.bel.trans (below_grown hg h.img.bg h.bel.size), hI⟩
theorem lv_bits (W : World) (p g q : Nat) (h : LvS w W p g liveL) (hG : Good W [.flt 9 q, .num 3]) : Calls Tryz.prog 16 #[.pointer (some ⟨p, 0, none⟩), .int .i64 1] W fun e w' => ∃ b off c, e = .returned (.tuple #[.slice (some ⟨b, off, none⟩) 1 c, .nilIface]) ∧ 1 ≤ c ∧ b < w'.heap.size ∧ w'.cell? ⟨b, off, none⟩ = some (.int .i64 2) ∧ Good w' [.flt 9 q, .num 3] ∧ LvS w w' p g liveL := by
  refine (blockBits_any (n := 2) 1 h.img live_len).mono ?_
  rintro e w' ⟨A, m, c, v, rfl, hI, hE, hb⟩
  rw [live_read.1] at hE
  rw [live_read.2] at hI
  obtain rfl : 1 = m := hI.len
  obtain rfl := hE.nil
  obtain ⟨b, off, rfl, hbl, hc⟩ := hI.row.lit (by simp [i64s])
  exact ⟨b, off, c, rfl, hI.cap, hbl, by simpa using hc 0 _ rfl, hG.below hb, h.later hb⟩
theorem lv_text (W : World) (p g q b off : Nat) {L : List UInt8} (h : LvS w W p g L) (hG : Good W [.flt 9 q, .num 3]) (hp : Pow w) (hb : b < W.heap.size) (hc : W.cell? ⟨b, off, none⟩ = some (.int .i64 2)) : Calls Tryz.prog 32 #[.iface 69 (.pointer (some ⟨q, 0, none⟩))] W fun e w' => e = .returned (str live11T) ∧ w'.cell? ⟨b, off, none⟩ = some (.int .i64 2) ∧ Below w.heap.size w w' := by
  refine (Text_err hG ⟨⟨by omega, by omega⟩, ⟨by omega, by omega⟩, trivial⟩ (hp.later h.bel) (by simp)).mono ?_
  rintro e w' ⟨rfl, h1⟩
  exact ⟨by rw [text_live11], (h1.cell (p := ⟨b, off, none⟩) hb).trans hc, h.bel.trans (h1.mono h.bel.size)⟩
end
theorem own_five (W : World) : (W.alloc (.cells #[.int .u8 1, .int .u8 0, .int .u8 0, .int .u8 0, .int .u8 2] 5)).ownsRow W.heap.size 5 1 (.slice (some ⟨W.heap.size, 0, none⟩) 5 5) 5 [.int .u8 1, .int .u8 0, .int .u8 0, .int .u8 0, .int .u8 2] :=
  ⟨rfl, .inr ⟨W.heap.size, 5, #[.int .u8 1, .int .u8 0, .int .u8 0, .int .u8 0, .int .u8 2], rfl, Nat.le_refl _, (MapKept.heap_alloc W _).1, Nat.le_refl _, by decide, rfl, rfl⟩⟩

set_option maxRecDepth 100000 in
set_option maxHeartbeats 1600000 in
theorem lives11_any (w : World) (hp : Pow w) : Calls Tryz.prog 7 #[] w fun e w' => e = .returned (.bool true) ∧ Below w.heap.size w w' := by
  obtain ⟨i0, hi0, hz0, hz1, hz2⟩ := info_parts info_u8
  have OF := Lib.hid (fun W g0 h hb => lv_of (w := w) W g0 h hb)
  have ND := Lib.hid (fun W p g h => lv_node (w := w) W p g h)
  have WT := Lib.hid (fun W p g q A c h hG hB => lv_write (w := w) W p g q A c h hG hB)
  have BT := Lib.hid (fun W p g q h hG => lv_bits (w := w) W p g q h hG)
  have TX := Lib.hid (fun W p g q b off h hG hb hc => lv_text (w := w) (L := liveL) W p g q b off h hG hp hb hc)
  have OW := Lib.hid own_five
  have eT := run_text_same live11T ⟨#[98, 108, 111, 99, 107, 32, 57, 58, 32, 101, 114, 114, 111, 114, 32, 51]⟩ rfl
  have gs := guard_str
  clear hp
  go_enter Tryz.func7, Tryz.ntmps7
  go_wp2_with (first
    | (at_make; refine wpList_make_full w rfl (.const (.int .i64 512)) (.const (.int .i64 512)) _ rfl w.heap.size 5 i0 _ 1 Tryz.underlying22 hi0 hz0 hz1 .i64 .i64 _ _ 512 rfl rfl rfl rfl (by rw [hz2]; omega) (by simp only [maxLen]; omega) (Nat.le_refl _) ?_; intro w1 hown1 hg1; have hb1 := below_of_grown hg1 (by simp); have HO1 := Lib.hid (own_zeros hown1 (Nat.le_refl _)); clear hown1 hg1)
    | (go_at_call 8; (with_reducible refine (OF.out _ _ HO1.out hb1).mono ?_); rintro e w2 ⟨p, g, rfl, hN2⟩)
    | (go_at_call 12; (with_reducible refine (ND.out _ _ _ hN2).mono ?_); rintro e w3 ⟨q, A5, n5, c5, A6, n6, c6, rfl, hG3, hN3⟩; have HG3 := Lib.hid hG3; clear hG3; have hal : Below w3.heap.size w3 (w3.alloc (.cells #[.int .i64 0, .bool false, .slice A5 n5 c5, .slice A6 n6 c6] 41)) := (Below.refl _ _).alloc (Nat.le_refl _) _; have hsz : (w3.alloc (.cells #[.int .i64 0, .bool false, .slice A5 n5 c5, .slice A6 n6 c6] 41)).heap.size = w3.heap.size + 1 := (by simp); have how := OW.out (w3.alloc (.cells #[.int .i64 0, .bool false, .slice A5 n5 c5, .slice A6 n6 c6] 41)); have hal2 := hal.alloc (by omega) (.cells #[.int .u8 1, .int .u8 0, .int .u8 0, .int .u8 0, .int .u8 2] 5); rw [hsz] at how; have HOW := Lib.hid how; have HAL := Lib.hid hal2; have hsz2 : w3.heap.size + 1 ≤ ((w3.alloc (.cells #[.int .i64 0, .bool false, .slice A5 n5 c5, .slice A6 n6 c6] 41)).alloc (.cells #[.int .u8 1, .int .u8 0, .int .u8 0, .int .u8 0, .int .u8 2] 5)).heap.size := (by simp); have HSZ := Lib.hid hsz2; clear hal hsz how hal2 hsz2)
    | (at_builtin; refine wpList_append_zeros _ rfl (.tmp 15) (.const (.int .i64 239)) _ _ rfl (w3.heap.size + 1) 5 .i64 Tryz.underlying22 Tryz.underlying3 info_u8 (.slice (some ⟨w3.heap.size + 1, 0, none⟩) 5 5) 5 [.int .u8 1, .int .u8 0, .int .u8 0, .int .u8 0, .int .u8 2] rfl HOW HSZ.out (by omega) 239 (by omega) rfl (by omega) ?_; intro v4 w4 ho4 hs4 hb4; have hb5 : Below w3.heap.size w3 w4 := HAL.out.trans (hb4.mono (by omega)); have hN4 := hN3.later hb5; have HG4 := Lib.hid (HG3.out.below hb5); obtain ⟨A4, c4, rfl, hB4⟩ := Bytes8.of_own (l := liveP) (n := 244) (by have := ho4.out; rw [show ([Value.int .u8 1, .int .u8 0, .int .u8 0, .int .u8 0, .int .u8 2] : List Value) = u8s [1, 0, 0, 0, 2] from rfl, ← u8s_append] at this; exact this); have HB4 := Lib.hid hB4; clear ho4 hs4 hb4 hb5 hB4)
    | (go_at_call 22; (with_reducible refine (WT.out _ _ _ _ _ _ hN4 HG4.out HB4.out).mono ?_); rintro e w5 ⟨rfl, hG5, hN5⟩; have HG5 := Lib.hid hG5; clear hG5)
    | (go_at_call 16; (with_reducible refine (BT.out _ _ _ _ hN5 HG5.out).mono ?_); rintro e w6 ⟨b, off, c, rfl, hc1, hbl, hcell, hG6, hN6⟩; have HG6 := Lib.hid hG6; have HC6 := Lib.hid hcell; clear hG6 hcell)
    | (go_at_call 32; (with_reducible refine (TX.out _ _ _ _ _ _ hN6 HG6.out hbl HC6.out).mono ?_); rintro e w7 ⟨rfl, hcell, hb7⟩))
  go_ret
  exact ⟨rfl, hb7⟩

end Go.Proofs.YtbeobbanppkmhaaGreatDoor

/-
  The walk of BlockNobody.
-/
namespace Go.Proofs.YtbeobbanppkmhaaGreatDoor
open Go.RowKit
set_option linter.unusedVariables false
set_option linter.unusedSimpArgs false

/-- errors that stand, all below as it was -/
structure EqS (w W : World) (ls : List (List Node)) : Prop where
  bel : Below w.heap.size w W
  all : ∀ l ∈ ls, Good W l
theorem EqS.later {w W W' : World} {ls : List (List Node)} (h : EqS w W ls) (hb : Below W.heap.size W W') : EqS w W' ls := ⟨h.bel.trans (hb.mono h.bel.size), fun l hl => (h.all l hl).below hb⟩
theorem EqS.alloc {w W : World} {ls : List (List Node)} (h : EqS w W ls) (o : Obj) : EqS w (W.alloc o) ls := h.later ((Below.refl _ _).alloc (Nat.le_refl _) o)
theorem EqS.start (w : World) : EqS w w [] := ⟨Below.refl _ _, fun l hl => by cases hl⟩
theorem EqS.push {w W : World} {ls : List (List Node)} {l : List Node} (h : EqS w W ls) (hG : Good W l) : EqS w W (l :: ls) := ⟨h.bel, fun x hx => by
  rcases List.mem_cons.1 hx with rfl | hx
  · exact hG
  · exact h.all x hx⟩
/-- and one number of a list -/
structure EqT (w W : World) (ls : List (List Node)) (b off : Nat) (no : Int) : Prop where
  eq : EqS w W ls
  lt : b < W.heap.size
  cell : W.cell? ⟨b, off, none⟩ = some (.int .i64 no)
theorem EqT.later {w W W' : World} {ls : List (List Node)} {b off : Nat} {no : Int} (h : EqT w W ls b off no) (hb : Below W.heap.size W W') : EqT w W' ls b off no := ⟨h.eq.later hb, Nat.lt_of_lt_of_le h.lt hb.size, (hb.cell (p := ⟨b, off, none⟩) h.lt).trans h.cell⟩

section
variable {w : World} (W : World) (ls : List (List Node))
theorem nb_super (h : EqS w W ls) : Calls Tryz.prog 10 #[.pointer none] W fun e w' => ∃ q, e = .returned (.tuple #[.agg #[.int .i64 0, .int .i64 0, .int .i64 0, .int .i64 0, .int .i64 0, .int .i64 0, .int .i64 0, .int .i64 0, .int .i64 0, .int .i64 0, .int .i64 0], .iface 69 (.pointer (some ⟨q, 0, none⟩))]) ∧ EqS w w' ([.flt 0 q, .num 18] :: ls) := by
  refine (blockSuper_nil W).mono ?_
  rintro e w' ⟨v, h1, h2, h3⟩
  obtain ⟨q, rfl, hG⟩ := h2.err (by decide)
  exact ⟨q, h1, (h.later h3).push hG⟩
theorem nb_node (no tr : Int) (h : EqS w W ls) : Calls Tryz.prog 12 #[.pointer none, .int .i64 no, .int .i64 tr] W fun e w' => ∃ q A5 n5 c5 A6 n6 c6, e = .returned (.tuple #[.agg #[.int .i64 0, .bool false, .slice A5 n5 c5, .slice A6 n6 c6], .iface 69 (.pointer (some ⟨q, 0, none⟩))]) ∧ EqS w w' ([.flt no q, .num 18] :: ls) := by
  refine (blockNode_nil W no tr).mono ?_
  rintro e w' ⟨v, A5, n5, c5, A6, n6, c6, h1, _, h2, h3⟩
  obtain ⟨q, rfl, hG⟩ := h2.err (by decide)
  exact ⟨q, A5, n5, c5, A6, n6, c6, h1, (h.later h3).push hG⟩
theorem nb_bits (no : Int) (h : EqS w W ls) : Calls Tryz.prog 16 #[.pointer none, .int .i64 no] W fun e w' => ∃ q A m c, e = .returned (.tuple #[.slice A m c, .iface 69 (.pointer (some ⟨q, 0, none⟩))]) ∧ EqS w w' ([.flt no q, .num 18] :: ls) := by
  refine (blockBits_nil W no).mono ?_
  rintro e w' ⟨A, m, c, v, h1, _, h2, h3⟩
  obtain ⟨q, rfl, hG⟩ := h2.err (by decide)
  exact ⟨q, A, m, c, h1, (h.later h3).push hG⟩
theorem nb_index (no : Int) (h : EqS w W ls) : Calls Tryz.prog 18 #[.pointer none, .int .i64 no] W fun e w' => ∃ q A m c, e = .returned (.tuple #[.slice A m c, .iface 69 (.pointer (some ⟨q, 0, none⟩))]) ∧ EqS w w' ([.flt no q, .num 18] :: ls) := by
  refine (blockIndex_nil W no).mono ?_
  rintro e w' ⟨A, m, c, v, h1, _, h2, h3⟩
  obtain ⟨q, rfl, hG⟩ := h2.err (by decide)
  exact ⟨q, A, m, c, h1, (h.later h3).push hG⟩
theorem nb_write (no kind : Int) {A : Option Addr} {m c : Nat} {l : List UInt8} (hB : Bytes8 w A m c l) (h : EqS w W ls) : Calls Tryz.prog 22 #[.pointer none, .int .i64 no, .int .i64 kind, .slice A m c] W fun e w' => ∃ q, e = .returned (.iface 69 (.pointer (some ⟨q, 0, none⟩))) ∧ EqS w w' ls := by
  refine (blockWrite_nil W no kind (hB.below h.bel)).mono ?_
  rintro e w' ⟨v, x, h1, h2, hx, h3⟩
  obtain ⟨q, rfl, _⟩ := h2.err hx
  exact ⟨q, h1, h.later h3⟩
theorem nb_blocks (no x : Int) (q : Nat) (hm : [.flt no q, .num x] ∈ ls) (h : EqS w W ls) : Calls Tryz.prog 31 #[.iface 69 (.pointer (some ⟨q, 0, none⟩))] W fun e w' => ∃ b off c, e = .returned (.slice (some ⟨b, off, none⟩) 1 c) ∧ 1 ≤ c ∧ EqT w w' ls b off no := by
  refine (Blocks_any (l := [.flt no q, .num x]) (h.all _ hm) (by simp)).mono ?_
  rintro e w' ⟨A, n, c, h1, hI, hb, _⟩
  obtain rfl : 1 = n := hI.len
  obtain ⟨b, off, rfl, hbl, hc⟩ := hI.row.lit (by simp [i64s, blocksOf])
  exact ⟨b, off, c, h1, hI.cap, h.later hb, hbl, by simpa using hc 0 _ rfl⟩
theorem nb_code {b off : Nat} {no : Int} (no' x : Int) (q : Nat) (hm : [.flt no' q, .num x] ∈ ls) (hg : ErrT w) (h : EqT w W ls b off no) : Calls Tryz.prog 29 #[.iface 69 (.pointer (some ⟨q, 0, none⟩))] W fun e w' => e = .returned (.int .i64 x) ∧ EqT w w' ls b off no :=
  (Code_err (h.eq.all _ hm) (hg.later h.eq.bel)).mono fun e w' ⟨h1, h2⟩ => ⟨h1, h.later h2⟩
end

set_option maxRecDepth 100000 in
set_option maxHeartbeats 3200000 in
theorem blocknobody_walk (no tr : Int) (A : Option Addr) (n c : Nat) (l0 : List UInt8) (w : World) (_hn : -9223372036854775808 ≤ no ∧ no ≤ 9223372036854775807) (_ht : -9223372036854775808 ≤ tr ∧ tr ≤ 9223372036854775807) (h : Bytes8 w A n c l0) (hg : ErrT w) (hp : Pow w) :
    Calls Tryz.prog 6 #[.int .i64 no, .int .i64 tr, .slice A n c] w fun e w' => e = .returned (.bool true) ∧ Below w.heap.size w w' := by
  obtain ⟨q, l, hB, hq, hcase⟩ := cut_bytes 600 h
  have hle := h.le
  have hcap := h.cap
  have SU := Lib.hid (nb_super w [] (EqS.start w))
  have ND : Hid (∀ W ls, EqS w W ls → _) := fun W ls h => nb_node W ls no tr h
  have BT : Hid (∀ W ls, EqS w W ls → _) := fun W ls h => nb_bits W ls no h
  have IX : Hid (∀ W ls, EqS w W ls → _) := fun W ls h => nb_index W ls no h
  have WT : Hid (∀ W ls, EqS w W ls → Calls Tryz.prog 22 #[.pointer none, .int .i64 no, .int .i64 2, .slice A q c] W _) := fun W ls h => nb_write W ls no 2 hB h
  have BL : Hid (∀ W ls q, [Node.flt no q, .num 18] ∈ ls → EqS w W ls → _) := fun W ls q hm h => nb_blocks W ls no 18 q hm h
  have CO : Hid (∀ W ls b off no' q, [Node.flt no' q, .num 18] ∈ ls → EqT w W ls b off no → _) := fun W ls b off no' q hm h => nb_code W ls no' 18 q hm hg h
  have LV : Hid (∀ W ls b off, EqT w W ls b off no → Calls Tryz.prog 7 #[] W fun e w' => e = .returned (.bool true) ∧ Below w.heap.size w w') := fun W ls b off h => (lives11_any W (hp.later h.eq.bel)).mono fun e w' ⟨h1, h2⟩ => ⟨h1, h.eq.bel.trans (h2.mono h.eq.bel.size)⟩
  clear h hB hg hp _hn _ht
  rcases hcase with ⟨g1, g2, rfl⟩ | ⟨g1, rfl⟩
  all_goals go_enter Tryz.func6, Tryz.ntmps6
  all_goals go_wp2_with (first
    | (go_at_call 10; (with_reducible refine (SU.out).mono ?_); rintro e w1 ⟨q1, rfl, hN1⟩)
    | (go_at_call 12; (with_reducible refine (ND.out _ _ (hN1.alloc _)).mono ?_); rintro e w2 ⟨q2, A5, n5, c5, A6, n6, c6, rfl, hN2⟩)
    | (go_at_call 16; (with_reducible refine (BT.out _ _ (hN2.alloc _)).mono ?_); rintro e w3 ⟨q3, A3, m3, c3, rfl, hN3⟩)
    | (go_at_call 18; (with_reducible refine (IX.out _ _ hN3).mono ?_); rintro e w4 ⟨q4, A4, m4, c4, rfl, hN4⟩)
    | (go_at_call 22; (with_reducible refine (WT.out _ _ hN4).mono ?_); rintro e w5 ⟨q5, rfl, hN5⟩)
    | (go_at_call 31; (with_reducible refine (BL.out _ _ q2 (by simp) hN5).mono ?_); rintro e w6 ⟨b, off, cb, rfl, hcb, hN6⟩)
    | (go_at_call 29; first
        | ((with_reducible refine (CO.out _ _ _ _ 0 q1 (by simp) hN6).mono ?_); rintro e w7 ⟨rfl, hN7⟩)
        | ((with_reducible refine (CO.out _ _ _ _ no q2 (by simp) hN7).mono ?_); rintro e w8 ⟨rfl, hN8⟩)
        | ((with_reducible refine (CO.out _ _ _ _ no q3 (by simp) hN8).mono ?_); rintro e w9 ⟨rfl, hN9⟩)
        | ((with_reducible refine (CO.out _ _ _ _ no q4 (by simp) hN9).mono ?_); rintro e w10 ⟨rfl, hN10⟩; have hc10 := hN10.cell))
    | (go_at_call 7; (with_reducible refine (LV.out _ _ _ _ hN10).mono ?_); rintro e w11 ⟨rfl, hb11⟩))
  all_goals go_ret
  all_goals exact ⟨rfl, hb11⟩

end Go.Proofs.YtbeobbanppkmhaaGreatDoor

/-
  The walk of BlockWrites.
-/
namespace Go.Proofs.YtbeobbanppkmhaaGreatDoor
open Go.RowKit
set_option linter.unusedVariables false
set_option linter.unusedSimpArgs false

/-- both images have been written: what both tell -/
structure WtE (w W : World) (p g p2 : Nat) (v : Value) (L : List UInt8) (q : Nat) (v1 : Value) (A3 : Option Addr) (n3 c3 : Nat) (no x : Int) : Prop where
  two : Two w p g p2 v L (blks L q) W
  err : ErrAt W v1 no x
  bad : Ints W A3 n3 c3 (atL no x)
theorem WtE.later {w W W' : World} {p g p2 : Nat} {v : Value} {L : List UInt8} {q : Nat} {v1 : Value} {A3 : Option Addr} {n3 c3 : Nat} {no x : Int} (h : WtE w W p g p2 v L q v1 A3 n3 c3 no x) (hb : Below W.heap.size W W') : WtE w W' p g p2 v L q v1 A3 n3 c3 no x := ⟨h.two.later hb, h.err.below hb, h.bad.below hb⟩

set_option maxRecDepth 100000 in
set_option maxHeartbeats 1600000 in
theorem writes_long (A : Option Addr) (n c : Nat) (no kind : Int) (A2 : Option Addr) (n2 c2 : Nat) (w : World) (hn : n ≤ 9223372036854775807) (hn2 : n2 ≤ 9223372036854775807) (h : 6000 < n ∨ 600 < n2) (hp : Pow w) :
    Calls Tryz.prog 4 #[.slice A n c, .int .i64 no, .int .i64 kind, .slice A2 n2 c2] w fun e w' => e = .returned (.bool true) ∧ Below w.heap.size w w' := by
  have LV := Lib.hid (lives11_any w hp)
  clear hp
  by_cases h1 : 6000 < n
  · have hd : decide ((6000 : Int) < (n : Int)) = true := decide_eq_true (by omega)
    have hd2 : decide (6000 < n) = true := decide_eq_true h1
    clear h
    go_enter Tryz.func4, Tryz.ntmps4
    go_wp2_with (go_at_call 7; (with_reducible refine (LV.out).mono ?_); rintro e w1 ⟨rfl, hb1⟩)
    go_ret
    exact ⟨rfl, hb1⟩
  · have h2 : 600 < n2 := by omega
    have hd : decide ((6000 : Int) < (n : Int)) = false := decide_eq_false (by omega)
    have hd2 : decide (6000 < n) = false := decide_eq_false h1
    clear h
    go_enter Tryz.func4, Tryz.ntmps4
    go_wp2_with (go_at_call 7; (with_reducible refine (LV.out).mono ?_); rintro e w1 ⟨rfl, hb1⟩)
    go_ret
    exact ⟨rfl, hb1⟩

set_option maxRecDepth 100000 in
set_option maxHeartbeats 3200000 in
theorem writes_short (A : Option Addr) (n c : Nat) (l : List UInt8) (no kind : Int) (A2 : Option Addr) (n2 c2 : Nat) (l2 : List UInt8) (w : World) (h : Bytes8 w A n c l) (h2 : Bytes8 w A2 n2 c2 l2) (hn : n ≤ 6000) (hn2 : n2 ≤ 600) (hg : ErrT w) (hp : Pow w) :
    Calls Tryz.prog 4 #[.slice A n c, .int .i64 no, .int .i64 kind, .slice A2 n2 c2] w fun e w' => e = .returned (.bool true) ∧ Below w.heap.size w w' := by
  have hlen := h.len
  obtain ⟨q, hq⟩ : ∃ q, q = n / 256 := ⟨_, rfl⟩
  have hL : (l.take (q * 256)).length = q * 256 := by rw [List.length_take]; omega
  have FO : Hid (Calls Tryz.prog 8 #[.slice A n c] w fun e w' => ∃ p g, e = .returned (.pointer (some ⟨p, 0, none⟩)) ∧ Img w' w.heap.size p g (l.take (q * 256)) ∧ Below w.heap.size w w') := by
    have := Of_any _ n c l w h
    rwa [whole_small hn, ← hq] at this
  have FR : Hid (∀ W p g, Below w.heap.size w W → Img W w.heap.size p g (l.take (q * 256)) → Calls Tryz.prog 9 #[.slice A n c] W fun e w' => ∃ p2 v, e = .returned (.pointer (some ⟨p2, 0, none⟩)) ∧ p < p2 ∧ g < p2 ∧ Two w p g p2 v (l.take (q * 256)) (blks (l.take (q * 256)) q) w') := fun W p g hb hi => by
    have := refOf_any A n c l W (h.below hb) hn
    have e : blks l q = blks (l.take (q * 256)) q := by
      unfold blks
      exact List.map_congr_left fun j hj => (blk_take (List.mem_range.1 hj)).symm
    rw [← hq, e] at this
    refine this.mono ?_
    rintro e w' ⟨v, h1, hr, hb2⟩
    exact ⟨W.heap.size, v, h1, hi.plt, hi.glt, hb.trans (hb2.mono hb.size), hi.later hb2, ⟨Nat.le_trans hb.size hr.bp, hr.hp, hr.own⟩⟩
  generalize l.take (q * 256) = L at *
  have WI : Hid (∀ W p g p2 v, g < p2 → Two w p g p2 v L (blks L q) W → Calls Tryz.prog 22 #[.pointer (some ⟨p, 0, none⟩), .int .i64 no, .int .i64 kind, .slice A2 n2 c2] W fun e w' => ∃ v1, e = .returned v1 ∧ ErrAt w' v1 no (wrE11 q no kind l2) ∧ Two w p g p2 v (wrL11 L q no kind l2) (blks L q) w') := fun W p g p2 v hgp hT => by
    refine (blockWrite_any no kind hT.img hL (h2.below hT.bel)).mono ?_
    rintro e w' ⟨v1, h1, h3, h4, h5⟩
    exact ⟨v1, h1, h3, hT.bel.trans (below_grown h5 hT.img.bg hT.bel.size), h4, hT.ref.grown h5 hgp⟩
  have WR : Hid (∀ W p g p2 v v1, p < p2 → g < p2 → Two w p g p2 v (wrL11 L q no kind l2) (blks L q) W → ErrAt W v1 no (wrE11 q no kind l2) → Calls Tryz.prog 23 #[.pointer (some ⟨p2, 0, none⟩), .int .i64 no, .int .i64 kind, .slice A2 n2 c2] W fun e w' => ∃ A3 n3 c3, e = .returned (.agg #[.slice A3 n3 c3, .int .i64 (wrE11 q no kind l2)]) ∧ WtE w w' p g p2 v (wrL11 L q no kind l2) q v1 A3 n3 c3 no (wrE11 q no kind l2)) := fun W p g p2 v v1 hpp hgp hT hE => by
    refine (ref11Write_any no kind hT.ref hL (h2.below hT.bel)).mono ?_
    rintro e w' ⟨f, h1, ⟨A3, n3, c3, h3, h4⟩, h5, h6, h7⟩
    have hpl := hT.ref.bp
    exact ⟨A3, n3, c3, by rw [h1, h3]; rfl, ⟨hT.bel.trans (h6.mono (by omega)), hT.img.below h6 (by omega) (by omega), h5⟩, hE.keep h7, h4⟩
  have hL2 : (wrL11 L q no kind l2).length = q * 256 := wrL11_length hL
  generalize wrL11 L q no kind l2 = K at *
  generalize wrE11 q no kind l2 = x at *
  have SM : Hid (∀ W p g p2 v v1 A3 n3 c3, WtE w W p g p2 v K q v1 A3 n3 c3 no x → Calls Tryz.prog 14 #[v1, .agg #[.slice A3 n3 c3, .int .i64 x]] W fun e w' => e = .returned (.bool true) ∧ WtE w w' p g p2 v K q v1 A3 n3 c3 no x) := fun W p g p2 v v1 A3 n3 c3 hE =>
    (same11_any W hE.err ⟨A3, n3, c3, rfl, hE.bad⟩ (hg.later hE.two.bel)).mono fun e w' ⟨h1, h3⟩ => ⟨h1, hE.later h3⟩
  have BI : Hid (∀ W p g p2 v v1 A3 n3 c3, WtE w W p g p2 v K q v1 A3 n3 c3 no x → Calls Tryz.prog 24 #[.pointer (some ⟨p, 0, none⟩)] W fun e w' => ∃ A, e = .returned (.slice A K.length K.length) ∧ Bytes8 w' A K.length K.length K ∧ Below W.heap.size W w' ∧ WtE w w' p g p2 v K q v1 A3 n3 c3 no x) := fun W p g p2 v v1 A3 n3 c3 hE =>
    (Bytes_img W hE.two.img).mono fun e w' ⟨A, h1, h3, h4⟩ => ⟨A, h1, h3, h4, hE.later h4⟩
  have BR : Hid (∀ W p g p2 v v1 A3 n3 c3, WtE w W p g p2 v K q v1 A3 n3 c3 no x → Calls Tryz.prog 25 #[.pointer (some ⟨p2, 0, none⟩)] W fun e w' => ∃ A c, e = .returned (.slice A K.length c) ∧ Bytes8 w' A K.length c K ∧ Below W.heap.size W w' ∧ WtE w w' p g p2 v K q v1 A3 n3 c3 no x) := fun W p g p2 v v1 A3 n3 c3 hE =>
    (hE.two.refBytes (blks_flatten K q hL2)).mono fun e w' ⟨A, c, h1, h3, h4, _⟩ => ⟨A, c, h1, h3, h4, hE.later h4⟩
  have LV : Hid (∀ W p g p2 v v1 A3 n3 c3, WtE w W p g p2 v K q v1 A3 n3 c3 no x → Calls Tryz.prog 7 #[] W fun e w' => e = .returned (.bool true) ∧ WtE w w' p g p2 v K q v1 A3 n3 c3 no x) := fun W p g p2 v v1 A3 n3 c3 hE =>
    (lives11_any W (hp.later hE.two.bel)).mono fun e w' ⟨h1, h3⟩ => ⟨h1, hE.later h3⟩
  have hd : decide ((6000 : Int) < (n : Int)) = false := decide_eq_false (by omega)
  have hd2 : decide ((600 : Int) < (n2 : Int)) = false := decide_eq_false (by omega)
  clear h h2 hg hp hlen hq hL hL2
  go_enter Tryz.func4, Tryz.ntmps4
  go_wp2_with (first
    | (go_at_call 8; (with_reducible refine (FO.out).mono ?_); rintro e w1 ⟨p, g, rfl, hI1, hb1⟩)
    | (go_at_call 9; (with_reducible refine (FR.out _ _ _ hb1 hI1).mono ?_); rintro e w2 ⟨p2, v, rfl, hpp, hgp, hT2⟩)
    | (go_at_call 22; (with_reducible refine (WI.out _ _ _ _ _ hgp hT2).mono ?_); rintro e w3 ⟨v1, rfl, hE3, hT3⟩; have HE3 := Lib.hid hE3; clear hE3)
    | (go_at_call 23; (with_reducible refine (WR.out _ _ _ _ _ _ hpp hgp hT3 HE3.out).mono ?_); rintro e w4 ⟨A3, n3, c3, rfl, hE4⟩))
  have hf : FltAt (w4.alloc (.cells #[.slice A3 n3 c3, .int .i64 x] 36)) w4.heap.size (.slice A3 n3 c3) (.int .i64 x) := FltAt.new _ _ _
  have hE5 := hE4.later ((Below.refl _ _).alloc (Nat.le_refl _) (.cells #[.slice A3 n3 c3, .int .i64 x] 36))
  clear FO FR WI WR hI1 hb1 hT2 hT3 HE3 hE4
  generalize w4.alloc (.cells #[.slice A3 n3 c3, .int .i64 x] 36) = w5 at *
  generalize w4.heap.size = r at *
  have hE5d := hE5.later ((Below.refl _ _).drew)
  have hfd := hf.later ((Below.refl _ _).drew)
  obtain ⟨⟨f0, f1⟩, _, _⟩ := hf.cs
  obtain ⟨⟨f2, f3⟩, _, _⟩ := hfd.cs
  go_region_with (first
    | (go_at_call 14; (with_reducible refine (SM.out _ _ _ _ _ _ _ _ _ (by assumption)).mono ?_); rintro e w6 ⟨rfl, hN⟩)
    | (go_at_call 24; (with_reducible refine (BI.out _ _ _ _ _ _ _ _ _ (by assumption)).mono ?_); rintro e w7 ⟨A7, rfl, hB7, hb7, hN⟩; have cv7 := run_str hB7; (first | (have cv8 := run_str (hB8.below hb7)) | skip))
    | (go_at_call 25; (with_reducible refine (BR.out _ _ _ _ _ _ _ _ _ (by assumption)).mono ?_); rintro e w8 ⟨A8, c8, rfl, hB8, hb8, hN⟩; have cv8 := run_str hB8; (first | (have cv7 := run_str (hB7.below hb8)) | skip))
    | (go_at_call 7; (with_reducible refine (LV.out _ _ _ _ _ _ _ _ _ (by assumption)).mono ?_); rintro e w9 ⟨rfl, hN⟩))
  all_goals go_wp2
  all_goals go_ret
  all_goals exact ⟨rfl, hN.two.bel⟩

theorem blockwrites_walk (A : Option Addr) (n c : Nat) (l : List UInt8) (no kind : Int) (A2 : Option Addr) (n2 c2 : Nat) (l2 : List UInt8) (w : World) (h : Bytes8 w A n c l) (_hn : -9223372036854775808 ≤ no ∧ no ≤ 9223372036854775807) (_hk : -9223372036854775808 ≤ kind ∧ kind ≤ 9223372036854775807) (h2 : Bytes8 w A2 n2 c2 l2) (hg : ErrT w) (hp : Pow w) :
    Calls Tryz.prog 4 #[.slice A n c, .int .i64 no, .int .i64 kind, .slice A2 n2 c2] w fun e w' => e = .returned (.bool true) ∧ Below w.heap.size w w' := by
  by_cases hs : n ≤ 6000 ∧ n2 ≤ 600
  · exact writes_short A n c l no kind A2 n2 c2 l2 w h h2 hs.1 hs.2 hg hp
  · exact writes_long A n c no kind A2 n2 c2 w h.le h2.le (by omega) hp

end Go.Proofs.YtbeobbanppkmhaaGreatDoor

/-
  The walk of BlockBack.
-/
namespace Go.Proofs.YtbeobbanppkmhaaGreatDoor
open Go.RowKit
set_option linter.unusedVariables false
set_option linter.unusedSimpArgs false

theorem blk_and15 (n : Int) : bits .and .i64 n 15 = n % 16 := by
  have hm : (BitVec.ofInt 64 15).toNat = 2 ^ 4 - 1 := by decide
  have key : (BitVec.ofInt 64 n &&& BitVec.ofInt 64 15).toNat = (n % ((2 ^ 64 : Nat) : Int)).toNat % 2 ^ 4 := by
    rw [BitVec.toNat_and, BitVec.toNat_ofInt, hm, Nat.and_two_pow_sub_one_eq_mod]
  show IntKind.i64.wrap ((BitVec.ofInt 64 n &&& BitVec.ofInt 64 15).toNat : Nat) = n % 16
  rw [key, IntKind.wrap_i64]
  omega
theorem back_blocks (x : Int) : 1 ≤ wrap64 (1 + bits .and .i64 x 15) ∧ wrap64 (1 + bits .and .i64 x 15) ≤ 16 := by rw [blk_and15]; unfold wrap64; omega
theorem back_no (x M : Int) (h : 1 ≤ M ∧ M ≤ 16) : 0 ≤ (wrap64 (x.tmod M + M)).tmod M ∧ (wrap64 (x.tmod M + M)).tmod M ≤ M - 1 := by
  have h1 := Int.tmod_lt_of_pos x (show (0 : Int) < M by omega)
  have h2 := Int.lt_tmod_of_pos x (show (0 : Int) < M by omega)
  generalize x.tmod M = y at *
  have hw : wrap64 (y + M) = y + M := by unfold wrap64; omega
  rw [hw]
  have h3 := Int.tmod_lt_of_pos (y + M) (show (0 : Int) < M by omega)
  have h4 := Int.tmod_nonneg M (show 0 ≤ y + M by omega)
  generalize (y + M).tmod M = z at *
  omega
/-- how many blocks there are, and which is written -/
theorem back_nums (no bl : Int) : ∃ M k : Nat, wrap64 (1 + bits .and .i64 bl 15) = (M : Int) ∧ (wrap64 (no.tmod (M : Int) + (M : Int))).tmod (M : Int) = (k : Int) ∧ 1 ≤ M ∧ M ≤ 16 ∧ k < M := by
  obtain ⟨q1, q2⟩ := back_blocks bl
  generalize wrap64 (1 + bits .and .i64 bl 15) = Y at *
  obtain ⟨M, rfl⟩ := Int.eq_ofNat_of_zero_le (Int.le_trans (by decide) q1)
  obtain ⟨q3, q4⟩ := back_no no M ⟨q1, q2⟩
  obtain ⟨k, hk⟩ := Int.eq_ofNat_of_zero_le q3
  rw [hk] at q4
  exact ⟨M, k, rfl, hk, by omega, by omega, by omega⟩
theorem back_tree {nd : Nod} (h : rightN nd = true) : 1 ≤ nd.tree ∧ nd.tree ≤ 5 := by
  rw [rightN_parts, Bool.and_eq_true, Bool.and_eq_true] at h
  have h1 := h.1.1
  simp only [holdsN, Bool.and_eq_true, decide_eq_true_eq] at h1
  have h2 := capN_pos.1 h1.1.1
  unfold widN at h2
  by_cases h3 : nd.tree < 1 ∨ 5 < nd.tree
  · rw [if_pos h3] at h2
    exact absurd rfl h2
  · omega

/-- the node in its variable, the image -/
structure BkS (w W : World) (tree : Int) (leaf : Bool) (s1 s2 : Value) (p g : Nat) (L : List UInt8) : Prop where
  bel : Below w.heap.size w W
  box : NodAt W w.heap.size tree leaf s1 s2
  img : Img W (w.heap.size + 1) p g L
theorem BkS.later {w W W' : World} {tree : Int} {leaf : Bool} {s1 s2 : Value} {p g : Nat} {L : List UInt8} (h : BkS w W tree leaf s1 s2 p g L) (hb : Below W.heap.size W W') : BkS w W' tree leaf s1 s2 p g L := ⟨h.bel.trans (hb.mono h.bel.size), h.box.later hb, h.img.later hb⟩

/-- what has been read: the node twice, two errors and a third -/
structure Bk1 (w W : World) (nd : Nod) (s1 s2 : Value) (p g : Nat) (L : List UInt8) (b11 : Nat) (A5 : Option Addr) (n5 c5 : Nat) (A6 : Option Addr) (n6 c6 : Nat) : Prop where
  prev : BkS w W nd.tree nd.leaf s1 s2 p g L
  n11 : NodAt W b11 nd.tree nd.leaf (.slice A5 n5 c5) (.slice A6 n6 c6)
  in11 : NodIn W nd A5 n5 c5 A6 n6 c6
structure Bk2 (w W : World) (nd : Nod) (s1 s2 : Value) (p g : Nat) (L : List UInt8) (b11 : Nat) (A5 : Option Addr) (n5 c5 : Nat) (A6 : Option Addr) (n6 c6 : Nat) (b13 : Nat) (B5 : Option Addr) (m5 d5 : Nat) (B6 : Option Addr) (m6 d6 : Nat) : Prop where
  prev : Bk1 w W nd s1 s2 p g L b11 A5 n5 c5 A6 n6 c6
  n13 : NodAt W b13 nd.tree nd.leaf (.slice B5 m5 d5) (.slice B6 m6 d6)
  in13 : NodIn W nd B5 m5 d5 B6 m6 d6
/-- errors at one block, and what was read -/
structure Bk3 (w W : World) (nd : Nod) (s1 s2 : Value) (p g : Nat) (L : List UInt8) (b11 : Nat) (A5 : Option Addr) (n5 c5 : Nat) (A6 : Option Addr) (n6 c6 : Nat) (b13 : Nat) (B5 : Option Addr) (m5 d5 : Nat) (B6 : Option Addr) (m6 d6 : Nat) (ls : List (List Node)) : Prop where
  prev : Bk2 w W nd s1 s2 p g L b11 A5 n5 c5 A6 n6 c6 b13 B5 m5 d5 B6 m6 d6
  all : ∀ l ∈ ls, Good W l
section
variable {w W W' : World} {nd : Nod} {s1 s2 : Value} {p g : Nat} {L : List UInt8} {b11 : Nat} {A5 : Option Addr} {n5 c5 : Nat} {A6 : Option Addr} {n6 c6 : Nat} {b13 : Nat} {B5 : Option Addr} {m5 d5 : Nat} {B6 : Option Addr} {m6 d6 : Nat} {ls : List (List Node)}
theorem Bk1.later (h : Bk1 w W nd s1 s2 p g L b11 A5 n5 c5 A6 n6 c6) (hb : Below W.heap.size W W') : Bk1 w W' nd s1 s2 p g L b11 A5 n5 c5 A6 n6 c6 := ⟨h.prev.later hb, h.n11.later hb, h.in11.below hb⟩
theorem Bk2.later (h : Bk2 w W nd s1 s2 p g L b11 A5 n5 c5 A6 n6 c6 b13 B5 m5 d5 B6 m6 d6) (hb : Below W.heap.size W W') : Bk2 w W' nd s1 s2 p g L b11 A5 n5 c5 A6 n6 c6 b13 B5 m5 d5 B6 m6 d6 := ⟨h.prev.later hb, h.n13.later hb, h.in13.below hb⟩
theorem Bk3.later (h : Bk3 w W nd s1 s2 p g L b11 A5 n5 c5 A6 n6 c6 b13 B5 m5 d5 B6 m6 d6 ls) (hb : Below W.heap.size W W') : Bk3 w W' nd s1 s2 p g L b11 A5 n5 c5 A6 n6 c6 b13 B5 m5 d5 B6 m6 d6 ls := ⟨h.prev.later hb, fun l hl => (h.all l hl).below hb⟩
theorem Bk3.bel (h : Bk3 w W nd s1 s2 p g L b11 A5 n5 c5 A6 n6 c6 b13 B5 m5 d5 B6 m6 d6 ls) : Below w.heap.size w W := h.prev.prev.prev.bel
theorem Bk3.push {l : List Node} (h : Bk3 w W nd s1 s2 p g L b11 A5 n5 c5 A6 n6 c6 b13 B5 m5 d5 B6 m6 d6 ls) (hG : Good W l) : Bk3 w W nd s1 s2 p g L b11 A5 n5 c5 A6 n6 c6 b13 B5 m5 d5 B6 m6 d6 (l :: ls) := ⟨h.prev, fun x hx => by
  rcases List.mem_cons.1 hx with rfl | hx
  · exact hG
  · exact h.all x hx⟩
end
theorem bk_al (W : World) (a : Obj) : Below W.heap.size W (W.alloc a) := (Below.refl _ _).alloc (Nat.le_refl _) _

section
variable {w W : World} {tree : Int} {leaf : Bool} {ks : List Int} {vs : List (List UInt8)} {s1 s2 : Value} {p g : Nat} {L : List UInt8} {M : Nat} {b11 : Nat} {A5 : Option Addr} {n5 c5 : Nat} {A6 : Option Addr} {n6 c6 : Nat} {b13 : Nat} {B5 : Option Addr} {m5 d5 : Nat} {B6 : Option Addr} {m6 d6 : Nat} {ls : List (List Node)}
theorem bk_new (hM : M ≤ 14400) (hb : Below w.heap.size w W) (hx : NodAt W w.heap.size tree leaf s1 s2) : Calls Tryz.prog 27 #[.int .i64 (M : Int)] W fun e w' => ∃ p g, e = .returned (.tuple #[.pointer (some ⟨p, 0, none⟩), .int .i64 0]) ∧ BkS w w' tree leaf s1 s2 p g (List.replicate (M * 256) 0) ∧ Below W.heap.size W w' := by
  refine (New_good M W hM).mono ?_
  rintro e w' ⟨p, g, h1, h2, h3⟩
  exact ⟨p, g, h1, ⟨hb.trans (h3.mono hb.size), hx.later h3, h2.down (block_lt hx)⟩, h3⟩
theorem bk_write {no : Int} {A : Option Addr} {c : Nat} {l : List UInt8} (hL : L.length = M * 256) (h0 : wrE11 M no 2 l = 0) (hB : Bytes8 W A 244 c l) (h : BkS w W tree leaf s1 s2 p g L) : Calls Tryz.prog 22 #[.pointer (some ⟨p, 0, none⟩), .int .i64 no, .int .i64 2, .slice A 244 c] W fun e w' => e = .returned .nilIface ∧ BkS w w' tree leaf s1 s2 p g (wrL11 L M no 2 l) := by
  refine (blockWrite_any no 2 h.img hL hB).mono ?_
  rintro e w' ⟨v, rfl, hE, hI, hg⟩
  rw [h0] at hE
  have hgb := h.img.bg
  exact ⟨by rw [hE.nil], h.bel.trans (below_grown hg (by omega) h.bel.size), (hg.block _ (block_lt h.box) (fun e => by injection e with e; omega)).trans h.box, hI⟩
theorem bk_node1 {no tr : Int} (hL : L.length = M * 256) (h0 : nodE11 L M no tr = 0) (hn : nodN11 L M no tr = ⟨tree, leaf, ks, vs⟩) (h : BkS w W tree leaf s1 s2 p g L) : Calls Tryz.prog 12 #[.pointer (some ⟨p, 0, none⟩), .int .i64 no, .int .i64 tr] W fun e w' => ∃ A5 n5 c5 A6 n6 c6, e = .returned (.tuple #[.agg #[.int .i64 tree, .bool leaf, .slice A5 n5 c5, .slice A6 n6 c6], .nilIface]) ∧ Bk1 w (w'.alloc (.cells #[.int .i64 tree, .bool leaf, .slice A5 n5 c5, .slice A6 n6 c6] 41)) ⟨tree, leaf, ks, vs⟩ s1 s2 p g L w'.heap.size A5 n5 c5 A6 n6 c6 := by
  refine (blockNode_any no tr h.img hL).mono ?_
  rw [h0, hn]
  rintro e w' ⟨v, A5, n5, c5, A6, n6, c6, h1, h2, h3, h4⟩
  obtain rfl := h3.nil
  exact ⟨A5, n5, c5, A6, n6, c6, h1, (h.later h4).later (bk_al _ _), heap_alloc_new w' _, h2.below (bk_al _ _)⟩
theorem bk_node2 {no tr : Int} (hL : L.length = M * 256) (h0 : nodE11 L M no tr = 0) (hn : nodN11 L M no tr = ⟨tree, leaf, ks, vs⟩) (h : Bk1 w W ⟨tree, leaf, ks, vs⟩ s1 s2 p g L b11 A5 n5 c5 A6 n6 c6) : Calls Tryz.prog 12 #[.pointer (some ⟨p, 0, none⟩), .int .i64 no, .int .i64 tr] W fun e w' => ∃ B5 m5 d5 B6 m6 d6, e = .returned (.tuple #[.agg #[.int .i64 tree, .bool leaf, .slice B5 m5 d5, .slice B6 m6 d6], .nilIface]) ∧ Bk2 w (w'.alloc (.cells #[.int .i64 tree, .bool leaf, .slice B5 m5 d5, .slice B6 m6 d6] 41)) ⟨tree, leaf, ks, vs⟩ s1 s2 p g L b11 A5 n5 c5 A6 n6 c6 w'.heap.size B5 m5 d5 B6 m6 d6 := by
  refine (blockNode_any no tr h.prev.img hL).mono ?_
  rw [h0, hn]
  rintro e w' ⟨v, B5, m5, d5, B6, m6, d6, h1, h2, h3, h4⟩
  obtain rfl := h3.nil
  exact ⟨B5, m5, d5, B6, m6, d6, h1, (h.later h4).later (bk_al _ _), heap_alloc_new w' _, h2.below (bk_al _ _)⟩
theorem bk_node3 {no tr : Int} (hL : L.length = M * 256) (h0 : nodE11 L M no tr = 6) (h : Bk2 w W ⟨tree, leaf, ks, vs⟩ s1 s2 p g L b11 A5 n5 c5 A6 n6 c6 b13 B5 m5 d5 B6 m6 d6) : Calls Tryz.prog 12 #[.pointer (some ⟨p, 0, none⟩), .int .i64 no, .int .i64 tr] W fun e w' => ∃ q3 A7 n7 c7 A8 n8 c8, e = .returned (.tuple #[.agg #[.int .i64 0, .bool false, .slice A7 n7 c7, .slice A8 n8 c8], .iface 69 (.pointer (some ⟨q3, 0, none⟩))]) ∧ Bk3 w (w'.alloc (.cells #[.int .i64 0, .bool false, .slice A7 n7 c7, .slice A8 n8 c8] 41)) ⟨tree, leaf, ks, vs⟩ s1 s2 p g L b11 A5 n5 c5 A6 n6 c6 b13 B5 m5 d5 B6 m6 d6 [[.flt no q3, .num 6]] := by
  have hn : nodN11 L M no tr = Nod.zero := by rw [nodN11, h0, if_neg (by decide)]
  refine (blockNode_any no tr h.prev.prev.img hL).mono ?_
  rw [h0, hn]
  rintro e w' ⟨v, A7, n7, c7, A8, n8, c8, h1, h2, h3, h4⟩
  obtain ⟨q3, rfl, hG⟩ := h3.err (by decide)
  refine ⟨q3, A7, n7, c7, A8, n8, c8, h1, (h.later h4).later (bk_al _ _), fun l hl => ?_⟩
  rw [List.mem_singleton] at hl
  subst hl
  exact hG.below (bk_al _ _)
theorem bk_bits {no : Int} (hL : L.length = M * 256) (h0 : bitE11 L M no = 4) (h : Bk3 w W ⟨tree, leaf, ks, vs⟩ s1 s2 p g L b11 A5 n5 c5 A6 n6 c6 b13 B5 m5 d5 B6 m6 d6 ls) : Calls Tryz.prog 16 #[.pointer (some ⟨p, 0, none⟩), .int .i64 no] W fun e w' => ∃ q4 A m c, e = .returned (.tuple #[.slice A m c, .iface 69 (.pointer (some ⟨q4, 0, none⟩))]) ∧ Bk3 w w' ⟨tree, leaf, ks, vs⟩ s1 s2 p g L b11 A5 n5 c5 A6 n6 c6 b13 B5 m5 d5 B6 m6 d6 ([.flt no q4, .num 4] :: ls) := by
  refine (blockBits_any no h.prev.prev.prev.img hL).mono ?_
  rintro e w' ⟨A, m, c, v, h1, h2, h3, h4⟩
  rw [h0] at h3
  obtain ⟨q4, rfl, hG⟩ := h3.err (by decide)
  exact ⟨q4, A, m, c, h1, (h.later h4).push hG⟩
theorem bk_index {no : Int} (hL : L.length = M * 256) (h0 : sltE11 L M no = 4) (h : Bk3 w W ⟨tree, leaf, ks, vs⟩ s1 s2 p g L b11 A5 n5 c5 A6 n6 c6 b13 B5 m5 d5 B6 m6 d6 ls) : Calls Tryz.prog 18 #[.pointer (some ⟨p, 0, none⟩), .int .i64 no] W fun e w' => ∃ q4 A m c, e = .returned (.tuple #[.slice A m c, .iface 69 (.pointer (some ⟨q4, 0, none⟩))]) ∧ Bk3 w w' ⟨tree, leaf, ks, vs⟩ s1 s2 p g L b11 A5 n5 c5 A6 n6 c6 b13 B5 m5 d5 B6 m6 d6 ([.flt no q4, .num 4] :: ls) := by
  refine (blockIndex_any no h.prev.prev.prev.img hL).mono ?_
  rintro e w' ⟨A, m, c, v, h1, h2, h3, h4⟩
  rw [h0] at h3
  obtain ⟨q4, rfl, hG⟩ := h3.err (by decide)
  exact ⟨q4, A, m, c, h1, (h.later h4).push hG⟩
theorem bk_same1 {A : Option Addr} {n c : Nat} {A2 : Option Addr} {n2 c2 : Nat} (hI : NodIn w ⟨tree, leaf, ks, vs⟩ A n c A2 n2 c2) (h : Bk3 w W ⟨tree, leaf, ks, vs⟩ s1 s2 p g L b11 A5 n5 c5 A6 n6 c6 b13 B5 m5 d5 B6 m6 d6 ls) : Calls Tryz.prog 28 #[.agg #[.int .i64 tree, .bool leaf, .slice A5 n5 c5, .slice A6 n6 c6], .agg #[.int .i64 tree, .bool leaf, .slice A n c, .slice A2 n2 c2]] W fun e w' => e = .returned (.bool true) ∧ Bk3 w w' ⟨tree, leaf, ks, vs⟩ s1 s2 p g L b11 A5 n5 c5 A6 n6 c6 b13 B5 m5 d5 B6 m6 d6 ls :=
  (Same_any7 W ⟨tree, leaf, ks, vs⟩ ⟨tree, leaf, ks, vs⟩ A5 n5 c5 A6 n6 c6 A n c A2 n2 c2 h.prev.prev.in11 (hI.below h.bel) true (sameN_refl _)).mono fun e w' ⟨h1, h2⟩ => ⟨h1, h.later h2⟩
theorem bk_same2 {A : Option Addr} {n c : Nat} {A2 : Option Addr} {n2 c2 : Nat} (hI : NodIn w ⟨tree, leaf, ks, vs⟩ A n c A2 n2 c2) (h : Bk3 w W ⟨tree, leaf, ks, vs⟩ s1 s2 p g L b11 A5 n5 c5 A6 n6 c6 b13 B5 m5 d5 B6 m6 d6 ls) : Calls Tryz.prog 28 #[.agg #[.int .i64 tree, .bool leaf, .slice B5 m5 d5, .slice B6 m6 d6], .agg #[.int .i64 tree, .bool leaf, .slice A n c, .slice A2 n2 c2]] W fun e w' => e = .returned (.bool true) ∧ Bk3 w w' ⟨tree, leaf, ks, vs⟩ s1 s2 p g L b11 A5 n5 c5 A6 n6 c6 b13 B5 m5 d5 B6 m6 d6 ls ∧ Bk3 w (w'.alloc (.cells #[.pointer none] 69)) ⟨tree, leaf, ks, vs⟩ s1 s2 p g L b11 A5 n5 c5 A6 n6 c6 b13 B5 m5 d5 B6 m6 d6 ls :=
  (Same_any7 W ⟨tree, leaf, ks, vs⟩ ⟨tree, leaf, ks, vs⟩ B5 m5 d5 B6 m6 d6 A n c A2 n2 c2 h.prev.in13 (hI.below h.bel) true (sameN_refl _)).mono fun e w' ⟨h1, h2⟩ => ⟨h1, h.later h2, (h.later h2).later (bk_al _ _)⟩
theorem bk_code (no x : Int) (q : Nat) (hm : [.flt no q, .num x] ∈ ls) (hg : ErrT w) (h : Bk3 w W ⟨tree, leaf, ks, vs⟩ s1 s2 p g L b11 A5 n5 c5 A6 n6 c6 b13 B5 m5 d5 B6 m6 d6 ls) : Calls Tryz.prog 29 #[.iface 69 (.pointer (some ⟨q, 0, none⟩))] W fun e w' => e = .returned (.int .i64 x) ∧ Bk3 w w' ⟨tree, leaf, ks, vs⟩ s1 s2 p g L b11 A5 n5 c5 A6 n6 c6 b13 B5 m5 d5 B6 m6 d6 ls ∧ Below W.heap.size W w' :=
  (Code_err (h.all _ hm) (hg.later h.bel)).mono fun e w' ⟨h1, h2⟩ => ⟨h1, h.later h2, h2⟩
theorem bk_as (no x : Int) (q b21 : Nat) (hm : [.flt no q, .num x] ∈ ls) (hg : ErrT w) (hs : w.heap.size ≤ b21) (ht : W.heap[b21]? = some (.cells #[.pointer none] 69 (0, 0))) (h : Bk3 w W ⟨tree, leaf, ks, vs⟩ s1 s2 p g L b11 A5 n5 c5 A6 n6 c6 b13 B5 m5 d5 B6 m6 d6 ls) : Calls Tryz.prog 30 #[.iface 69 (.pointer (some ⟨q, 0, none⟩)), .iface 72 (.pointer (some ⟨b21, 0, none⟩))] W fun e w' => e = .returned (.bool true) ∧ w'.cell? ⟨b21, 0, none⟩ = some (.pointer (some ⟨q, 0, none⟩)) ∧ w'.cell? ⟨q, 0, none⟩ = some (.int .i64 no) ∧ (∀ l ∈ ls, Good w' l) ∧ Below w.heap.size w w' := by
  refine (as_flt ⟨q, 0, none⟩ ⟨b21, 0, none⟩ (.pointer none) W (hg.later h.bel) (by rw [cell_of_row W b21 0 _ _ _ ht]; rfl) (Lib.frozen_of_heap ht 0)).mono ?_
  rintro e w' ⟨h1, w1, rfl, hb⟩
  have ht1 := (hb.block _ (block_lt ht)).trans ht
  have hk : Keeps W (w1.setCell ⟨b21, 0, none⟩ (.pointer (some ⟨q, 0, none⟩))) := (Keeps.of_below hb).trans (fun p x e => by
    rw [heap_setCell_other _ _ p _]
    · exact e
    · intro hp
      subst hp
      rw [ht1] at e
      injection e with e
      injection e with _ e2 _
      exact absurd e2 (by decide))
  have hq := (h.all _ hm).same hk
  exact ⟨h1, World.cell?_setCell_same _ _ _ (by rw [cell_of_row w1 b21 0 _ _ _ ht1]; rfl), by rw [cell_of_row _ q 0 _ _ _ hq.1]; rfl, fun l hl => (h.all l hl).same hk, (h.bel.trans (hb.mono h.bel.size)).setCell (p := ⟨b21, 0, none⟩) hs _⟩
end
/-- what stands behind errors.As -/
structure BkE (w W : World) (ls : List (List Node)) : Prop where
  bel : Below w.heap.size w W
  all : ∀ l ∈ ls, Good W l
theorem be_code {w W : World} {ls : List (List Node)} (no x : Int) (q : Nat) (hm : [.flt no q, .num x] ∈ ls) (hg : ErrT w) (h : BkE w W ls) : Calls Tryz.prog 29 #[.iface 69 (.pointer (some ⟨q, 0, none⟩))] W fun e w' => e = .returned (.int .i64 x) ∧ BkE w w' ls :=
  (Code_err (h.all _ hm) (hg.later h.bel)).mono fun e w' ⟨h1, h2⟩ => ⟨h1, h.bel.trans (h2.mono h.bel.size), fun l hl => (h.all l hl).below h2⟩

set_option maxRecDepth 100000 in
set_option maxHeartbeats 1600000 in
theorem back_bad {nd : Nod} {A : Option Addr} {n c : Nat} {A2 : Option Addr} {n2 c2 : Nat} (no bl : Int) (w : World) (hI : NodIn w nd A n c A2 n2 c2) (hr : rightN nd = false) (hp : Pow w) :
    Calls Tryz.prog 5 #[nodV nd A n c A2 n2 c2, .int .i64 no, .int .i64 bl] w fun e w' => e = .returned (.bool true) ∧ Below w.heap.size w w' := by
  obtain ⟨tree, leaf, ks, vs⟩ := nd
  have hal : Below w.heap.size w (w.alloc (.cells #[.int .i64 tree, .bool leaf, .slice A n c, .slice A2 n2 c2] 41)) := bk_al w _
  have PB : Hid (Calls Tryz.prog 26 #[.agg #[.int .i64 tree, .bool leaf, .slice A n c, .slice A2 n2 c2]] (w.alloc (.cells #[.int .i64 tree, .bool leaf, .slice A n c, .slice A2 n2 c2] 41)) fun e w' => e = .returned (.tuple #[.slice none 0 0, .int .i64 1]) ∧ Below w.heap.size w w') := (NPut_bad _ ⟨tree, leaf, ks, vs⟩ A n c A2 n2 c2 (hI.below hal) hr).mono fun e w' ⟨h1, h2⟩ => ⟨h1, hal.trans (h2.mono hal.size)⟩
  have LV : Hid (∀ W, Below w.heap.size w W → Calls Tryz.prog 7 #[] W fun e w' => e = .returned (.bool true) ∧ Below w.heap.size w w') := fun W hb => (lives11_any W (hp.later hb)).mono fun e w' ⟨h1, h2⟩ => ⟨h1, hb.trans (h2.mono hb.size)⟩
  obtain ⟨M, k, hM, hk, hM0, hM1, hk1⟩ := back_nums no bl
  have hMz : ¬ ((M : Int) = 0) := by omega
  clear hI hr hp
  simp only [nodV]
  go_enter Tryz.func5, Tryz.ntmps5
  go_wp2_with (first
    | (go_at_call 26; (with_reducible refine (PB.out).mono ?_); rintro e w1 ⟨rfl, hb1⟩)
    | (go_at_call 7; (with_reducible refine (LV.out _ hb1).mono ?_); rintro e w2 ⟨rfl, hb2⟩))
  go_ret
  exact ⟨rfl, hb2⟩

set_option maxRecDepth 100000 in
set_option maxHeartbeats 6400000 in
theorem back_good {nd : Nod} {A : Option Addr} {n c : Nat} {A2 : Option Addr} {n2 c2 : Nat} (no bl : Int) (w : World) (hI : NodIn w nd A n c A2 n2 c2) (hr : rightN nd = true) (hg : ErrT w) (hp : Pow w) :
    Calls Tryz.prog 5 #[nodV nd A n c A2 n2 c2, .int .i64 no, .int .i64 bl] w fun e w' => e = .returned (.bool true) ∧ Below w.heap.size w w' := by
  obtain ⟨M, k, hM, hk, hM0, hM1, hk1⟩ := back_nums no bl
  have ht := back_tree hr
  have hZ : (List.replicate (M * 256) (0 : UInt8)).length = M * 256 := List.length_replicate
  have ho : outB M (k : Int) = false := outB_not.2 ⟨Int.natCast_nonneg k, by omega⟩
  obtain ⟨f1, f2, f3, f4, f5⟩ := nod_written (nd := nd) (L := List.replicate (M * 256) 0) (n := M) (no := (k : Int)) hZ hr ho (by omega)
  have hL2 : (wrL11 (List.replicate (M * 256) 0) M (k : Int) 2 (encNod nd)).length = M * 256 := wrL11_length hZ
  obtain ⟨tree, leaf, ks, vs⟩ := nd
  replace ht : 1 ≤ tree ∧ tree ≤ 5 := ht
  have hal : Below w.heap.size w (w.alloc (.cells #[.int .i64 tree, .bool leaf, .slice A n c, .slice A2 n2 c2] 41)) := bk_al w _
  have PG : Hid (Calls Tryz.prog 26 #[.agg #[.int .i64 tree, .bool leaf, .slice A n c, .slice A2 n2 c2]] (w.alloc (.cells #[.int .i64 tree, .bool leaf, .slice A n c, .slice A2 n2 c2] 41)) fun e w' => ∃ g, e = .returned (.tuple #[.slice (some ⟨g, 0, none⟩) 244 244, .int .i64 0]) ∧ Bytes8 w' (some ⟨g, 0, none⟩) 244 244 (encNod ⟨tree, leaf, ks, vs⟩) ∧ Below w.heap.size w w' ∧ NodAt w' w.heap.size tree leaf (.slice A n c) (.slice A2 n2 c2)) := (NPut_good _ ⟨tree, leaf, ks, vs⟩ A n c A2 n2 c2 (hI.below hal) hr).mono fun e w' ⟨g, h1, h2, h3⟩ => ⟨g, h1, h2.bytes (n := 244) (encNod_length hr) (by omega), hal.trans (h3.mono hal.size), NodAt.later (heap_alloc_new w _) h3⟩
  have NW : Hid (∀ W, Below w.heap.size w W → NodAt W w.heap.size tree leaf (.slice A n c) (.slice A2 n2 c2) → Calls Tryz.prog 27 #[.int .i64 (M : Int)] W _) := fun W hb hx => bk_new (by omega) hb hx
  have WR : Hid (∀ W p g A3 c3, Bytes8 W A3 244 c3 (encNod ⟨tree, leaf, ks, vs⟩) → BkS w W tree leaf (.slice A n c) (.slice A2 n2 c2) p g (List.replicate (M * 256) 0) → Calls Tryz.prog 22 #[.pointer (some ⟨p, 0, none⟩), .int .i64 (k : Int), .int .i64 2, .slice A3 244 c3] W _) := fun W p g A3 c3 hB h => bk_write hZ f1 hB h
  have N1 : Hid (∀ W p g, BkS w W tree leaf (.slice A n c) (.slice A2 n2 c2) p g (wrL11 (List.replicate (M * 256) 0) M (k : Int) 2 (encNod ⟨tree, leaf, ks, vs⟩)) → Calls Tryz.prog 12 #[.pointer (some ⟨p, 0, none⟩), .int .i64 (k : Int), .int .i64 0] W _) := fun W p g h => bk_node1 hL2 (f2 0 (.inl rfl)).1 (f2 0 (.inl rfl)).2 h
  have N2 : Hid (∀ W p g b11 A5 n5 c5 A6 n6 c6, Bk1 w W ⟨tree, leaf, ks, vs⟩ (.slice A n c) (.slice A2 n2 c2) p g (wrL11 (List.replicate (M * 256) 0) M (k : Int) 2 (encNod ⟨tree, leaf, ks, vs⟩)) b11 A5 n5 c5 A6 n6 c6 → Calls Tryz.prog 12 #[.pointer (some ⟨p, 0, none⟩), .int .i64 (k : Int), .int .i64 tree] W _) := fun W p g b11 A5 n5 c5 A6 n6 c6 h => bk_node2 hL2 (f2 tree (.inr rfl)).1 (f2 tree (.inr rfl)).2 h
  have N3 : Hid (∀ W p g b11 A5 n5 c5 A6 n6 c6 b13 B5 m5 d5 B6 m6 d6, Bk2 w W ⟨tree, leaf, ks, vs⟩ (.slice A n c) (.slice A2 n2 c2) p g (wrL11 (List.replicate (M * 256) 0) M (k : Int) 2 (encNod ⟨tree, leaf, ks, vs⟩)) b11 A5 n5 c5 A6 n6 c6 b13 B5 m5 d5 B6 m6 d6 → Calls Tryz.prog 12 #[.pointer (some ⟨p, 0, none⟩), .int .i64 (k : Int), .int .i64 (tree % 5 + 1)] W _) := fun W p g b11 A5 n5 c5 A6 n6 c6 b13 B5 m5 d5 B6 m6 d6 h => bk_node3 hL2 (f3 (tree % 5 + 1) (by omega) (by show tree % 5 + 1 ≠ tree; omega)) h
  have BT : Hid (∀ W p g b11 A5 n5 c5 A6 n6 c6 b13 B5 m5 d5 B6 m6 d6 ls, Bk3 w W ⟨tree, leaf, ks, vs⟩ (.slice A n c) (.slice A2 n2 c2) p g (wrL11 (List.replicate (M * 256) 0) M (k : Int) 2 (encNod ⟨tree, leaf, ks, vs⟩)) b11 A5 n5 c5 A6 n6 c6 b13 B5 m5 d5 B6 m6 d6 ls → Calls Tryz.prog 16 #[.pointer (some ⟨p, 0, none⟩), .int .i64 (k : Int)] W _) := fun W p g b11 A5 n5 c5 A6 n6 c6 b13 B5 m5 d5 B6 m6 d6 ls h => bk_bits hL2 f4 h
  have IX : Hid (∀ W p g b11 A5 n5 c5 A6 n6 c6 b13 B5 m5 d5 B6 m6 d6 ls, Bk3 w W ⟨tree, leaf, ks, vs⟩ (.slice A n c) (.slice A2 n2 c2) p g (wrL11 (List.replicate (M * 256) 0) M (k : Int) 2 (encNod ⟨tree, leaf, ks, vs⟩)) b11 A5 n5 c5 A6 n6 c6 b13 B5 m5 d5 B6 m6 d6 ls → Calls Tryz.prog 18 #[.pointer (some ⟨p, 0, none⟩), .int .i64 (k : Int)] W _) := fun W p g b11 A5 n5 c5 A6 n6 c6 b13 B5 m5 d5 B6 m6 d6 ls h => bk_index hL2 f5 h
  have LV : Hid (∀ W ls, BkE w W ls → Calls Tryz.prog 7 #[] W fun e w' => e = .returned (.bool true) ∧ Below w.heap.size w w') := fun W ls h => (lives11_any W (hp.later h.bel)).mono fun e w' ⟨h1, h2⟩ => ⟨h1, h.bel.trans (h2.mono h.bel.size)⟩
  have HI := Lib.hid hI
  have HG := Lib.hid hg
  have b0 : NodAt (w.alloc (.cells #[.int .i64 tree, .bool leaf, .slice A n c, .slice A2 n2 c2] 41)) w.heap.size tree leaf (.slice A n c) (.slice A2 n2 c2) := heap_alloc_new w _
  obtain ⟨⟨x0, x1, x2, x3⟩, _, _, _, _⟩ := b0.cs
  clear f1 f2 f3 f4 f5 hZ hL2 ho hI hr hg hp hal b0
  generalize encNod ⟨tree, leaf, ks, vs⟩ = enc at *
  generalize wrL11 (List.replicate (M * 256) 0) M (k : Int) 2 enc = L at *
  generalize List.replicate (M * 256) (0 : UInt8) = Z at *
  simp only [nodV] at *
  have hMz : ¬ ((M : Int) = 0) := by omega
  go_enter Tryz.func5, Tryz.ntmps5
  go_wp2_with (first
    | (go_at_call 26; (with_reducible refine (PG.out).mono ?_); rintro e w1 ⟨g1, rfl, hB1, hb1, hx1⟩; have HB1 := Lib.hid hB1; clear hB1)
    | (go_at_call 27; (with_reducible refine (NW.out _ hb1 hx1).mono ?_); rintro e w2 ⟨p, g, rfl, hS2, hb2⟩; have HB2 := Lib.hid (HB1.out.below hb2))
    | (go_at_call 22; (with_reducible refine (WR.out _ _ _ _ _ HB2.out hS2).mono ?_); rintro e w3 ⟨rfl, hS3⟩)
    | (go_at_call 12; first
      | ((with_reducible refine (N1.out _ _ _ hS3).mono ?_); rintro e w4 ⟨A5, n5, c5, A6, n6, c6, rfl, hV4⟩; have j0 := hV4.prev.box.c0)
      | ((with_reducible refine (N2.out _ _ _ _ _ _ _ _ _ _ hV4).mono ?_); rintro e w5 ⟨B5, m5, d5, B6, m6, d6, rfl, hV5⟩; have j1 := hV5.prev.prev.box.c0)
      | ((with_reducible refine (N3.out _ _ _ _ _ _ _ _ _ _ _ _ _ _ _ _ _ hV5).mono ?_); rintro e w6 ⟨q3, A7, n7, c7, A8, n8, c8, rfl, hV6⟩))
    | (go_at_call 16; (with_reducible refine (BT.out _ _ _ _ _ _ _ _ _ _ _ _ _ _ _ _ _ _ hV6).mono ?_); rintro e w7 ⟨q4, A9, m9, c9, rfl, hV7⟩)
    | (go_at_call 18; (with_reducible refine (IX.out _ _ _ _ _ _ _ _ _ _ _ _ _ _ _ _ _ _ hV7).mono ?_); rintro e w8 ⟨q5, A10, m10, c10, rfl, hV8⟩; obtain ⟨⟨u0, u1, u2, u3⟩, _, _, _, _⟩ := hV8.prev.prev.n11.cs; obtain ⟨⟨y0, y1, y2, y3⟩, _, _, _, _⟩ := hV8.prev.prev.prev.box.cs)
    | (go_at_call 28; first
      | ((with_reducible refine (bk_same1 HI.out hV8).mono ?_); rintro e w9 ⟨rfl, hV9⟩; obtain ⟨⟨v0, v1, v2, v3⟩, _, _, _, _⟩ := hV9.prev.n13.cs; obtain ⟨⟨z0, z1, z2, z3⟩, _, _, _, _⟩ := hV9.prev.prev.prev.box.cs)
      | ((with_reducible refine (bk_same2 HI.out hV9).mono ?_); rintro e w10 ⟨rfl, hV10, hV11⟩; have ht11 := heap_alloc_new w10 (.cells #[.pointer none] 69); have hs11 : w.heap.size ≤ w10.heap.size := hV10.bel.size))
    | (go_at_call 29; first
      | ((with_reducible refine (bk_code (k : Int) 6 q3 (by simp) HG.out hV11).mono ?_); rintro e w12 ⟨rfl, hV12, hb12⟩; have ht12 := (hb12.block _ (block_lt ht11)).trans ht11)
      | ((with_reducible refine (be_code (k : Int) 4 q4 (by simp) HG.out hE13).mono ?_); rintro e w14 ⟨rfl, hE14⟩)
      | ((with_reducible refine (be_code (k : Int) 4 q5 (by simp) HG.out hE14).mono ?_); rintro e w15 ⟨rfl, hE15⟩))
    | (go_at_call 30; (with_reducible refine (bk_as (k : Int) 6 q3 _ (by simp) HG.out hs11 ht12 hV12).mono ?_); rintro e w13 ⟨rfl, hc13, hq13, hall13, hb13⟩; have hE13 := BkE.mk hb13 hall13)
    | (go_at_call 7; (with_reducible refine (LV.out _ _ hE15).mono ?_); rintro e w16 ⟨rfl, hb16⟩))
  go_ret
  exact ⟨rfl, hb16⟩

theorem blockback_walk (tree : Int) (leaf : Bool) (A : Option Addr) (n c : Nat) (ks : List Int) (A2 : Option Addr) (n2 c2 : Nat) (vs : List (List UInt8)) (no bl : Int) (w : World) (ht : -9223372036854775808 ≤ tree ∧ tree ≤ 9223372036854775807) (h1 : Ints w A n c ks) (hk : ∀ y ∈ ks, -9223372036854775808 ≤ y ∧ y ≤ 9223372036854775807) (h2 : Strs w A2 n2 c2 vs) (hv : ∀ l ∈ vs, l.length ≤ 9223372036854775807) (_hn : -9223372036854775808 ≤ no ∧ no ≤ 9223372036854775807) (_hb : -9223372036854775808 ≤ bl ∧ bl ≤ 9223372036854775807) (hg : ErrT w) (hp : Pow w) :
    Calls Tryz.prog 5 #[.agg #[.int .i64 tree, .bool leaf, .slice A n c, .slice A2 n2 c2], .int .i64 no, .int .i64 bl] w fun e w' => e = .returned (.bool true) ∧ Below w.heap.size w w' := by
  have hI : NodIn w ⟨tree, leaf, ks, vs⟩ A n c A2 n2 c2 := ⟨h1, h2, ht, hk, hv⟩
  change Calls Tryz.prog 5 #[nodV ⟨tree, leaf, ks, vs⟩ A n c A2 n2 c2, .int .i64 no, .int .i64 bl] w fun e w' => e = .returned (.bool true) ∧ Below w.heap.size w w'
  cases hr : rightN ⟨tree, leaf, ks, vs⟩ with
  | false => exact back_bad no bl w hI hr hp
  | true => exact back_good no bl w hI hr hg hp

end Go.Proofs.YtbeobbanppkmhaaGreatDoor
