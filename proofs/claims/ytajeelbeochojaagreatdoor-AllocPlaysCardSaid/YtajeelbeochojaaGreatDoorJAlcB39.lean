/-
  Joined: BlkR, BlkW, AlcB, AlcC, AlcD, AlcE, AlcR, AlcS, AlcT, AlcU, AlcV, AlcLawB, AlcLawC.
-/
import Derived.Test.YtajeelbeochojaaGreatDoorJAlcB38
import Derived.Test.YtajeelbeochojaaGreatDoorJAlcB27
import Derived.Test.YtajeelbeochojaaGreatDoorJAlcB25
import Derived.Test.YtajeelbeochojaaGreatDoorJAlcB22
import Derived.Test.YtajeelbeochojaaGreatDoorJAlcB20
import Derived.Test.YtajeelbeochojaaGreatDoorJAlcB36
import Derived.Test.YtajeelbeochojaaGreatDoorJAlcB02
import Derived.Test.YtajeelbeochojaaGreatDoorJAlcB21
import Derived.Test.YtajeelbeochojaaGreatDoorJAlcB17
import Derived.Test.YtajeelbeochojaaGreatDoorJAlcB03
import Derived.Deep.RegionWith
import Derived.Deep.RegionHeld3
import Derived.Deep.DeepCutAuto
import Derived.Test.YtajeelbeochojaaGreatDoorJAlcB33
/-
  Layer 11's reference: At, in, Bits, Index.
-/
namespace Go.Proofs.YtajeelbeochojaaGreatDoor
open Go.RowKit
set_option linter.unusedVariables false
set_option linter.unusedSimpArgs false

/-- an error's variable, all below as it was -/
def Bx (w W : World) : Prop := SmS w W w.heap.size (.slice none 0 0) (.int .i64 0)
theorem Bx.start (w : World) : Bx w (w.alloc (.cells #[.slice none 0 0, .int .i64 0] 37)) := ⟨(Below.refl _ _).alloc (Nat.le_refl _) _, FltAt.new w _ _⟩
theorem Bx.later {w W W' : World} (h : Bx w W) (hb : Below W.heap.size W W') : Bx w W' := SmS.later h hb
theorem Bx.low {w W : World} (h : Bx w W) : w.heap.size + 1 ≤ W.heap.size := block_lt h.flt

end Go.Proofs.YtajeelbeochojaaGreatDoor

/-
  Layer 11: Write, the program's and the reference's.
-/
namespace Go.Proofs.YtajeelbeochojaaGreatDoor
open Go.RowKit
set_option linter.unusedVariables false
set_option linter.unusedSimpArgs false

theorem grown_below {w w' : World} (hb : Below w.heap.size w w') (r : Option Nat) : w.grownBy w' r := ⟨hb.os, hb.tape, hb.output, hb.size, fun k hk _ => hb.block k hk⟩
theorem grown_kept {w w' : World} {g : Nat} (hk : Kept g w w') : w.grownBy w' (some g) := ⟨hk.os, hk.tape, hk.output, by rw [hk.size]; exact Nat.le_refl _, fun k _ hne => hk.block k (fun e => hne (by rw [e]))⟩
theorem grown_trans {a b c : World} {r : Option Nat} (h : a.grownBy b r) (k : b.grownBy c r) : a.grownBy c r :=
  ⟨k.os.trans h.os, k.tape.trans h.tape, k.output.trans h.output, Nat.le_trans h.size k.size, fun i hi hne => (k.block i (Nat.lt_of_lt_of_le hi h.size) hne).trans (h.block i hi hne)⟩
theorem below_grown {w w' : World} {B g : Nat} (h : w.grownBy w' (some g)) (hB : B ≤ g) (hs : B ≤ w.heap.size) : Below B w w' :=
  ⟨h.os, h.tape, h.output, h.size, fun k hk => h.block k (by omega) (fun e => by injection e; omega)⟩

theorem wrE11_seal {n : Nat} {no kind : Int} {l : List UInt8} (h : sealE kind no l.length ≠ 0) : wrE11 n no kind l = sealE kind no l.length := by rw [wrE11, if_pos h]
theorem wrE11_ok {n : Nat} {no kind : Int} {l : List UInt8} (h : sealE kind no l.length = 0) : wrE11 n no kind l = if outB n no = true then 3 else 0 := by rw [wrE11, if_neg (fun e => e h)]
theorem wrL11_bad {L : List UInt8} {n : Nat} {no kind : Int} {l : List UInt8} (h : wrE11 n no kind l ≠ 0) : wrL11 L n no kind l = L := by rw [wrL11, if_neg h]
theorem wrL11_good {L : List UInt8} {n : Nat} {no kind : Int} {l : List UInt8} (h : wrE11 n no kind l = 0) : wrL11 L n no kind l = splice L (no.toNat * 256) (sealB kind no l) := by rw [wrL11, if_pos h]

/-- a sealed block, written by image's Write -/
theorem imgWrite_any {w : World} {B p g n : Nat} {L l : List UInt8} (no : Int) (A : Option Addr) (c : Nat) (h : Img w B p g L) (hL : L.length = n * 256) (hl : Bytes8 w A 256 c l) :
    Calls Tryz.prog 55 #[.pointer (some ⟨p, 0, none⟩), .int .i64 no, .slice A 256 c] w fun e w' => e = .returned (.int .i64 (if outB n no = true then 3 else 0)) ∧ Img w' B p g (if outB n no = true then L else splice L (no.toNat * 256) l) ∧ w.grownBy w' (some g) := by
  cases ho : outB n no with
  | true =>
    refine (Write_bad p no n A 256 c w (Blocks_img w h hL) (outB_iff.1 ho)).mono ?_
    rintro e w' ⟨rfl, rfl⟩
    exact ⟨rfl, by simpa using h, grown_below (Below.refl _ _) _⟩
  | false =>
    obtain ⟨h0, h1⟩ := outB_not.1 ho
    obtain ⟨k, rfl⟩ := Int.eq_ofNat_of_zero_le h0
    refine (Write_img k A c w h hL (by omega) hl).mono ?_
    rintro e w' ⟨rfl, hk, hi⟩
    exact ⟨rfl, by simpa using hi, grown_kept hk⟩

set_option maxRecDepth 100000 in
set_option maxHeartbeats 1600000 in
theorem blockWrite_bad {w : World} (pv : Value) (no kind : Int) {A : Option Addr} {m c : Nat} {l : List UInt8} (hB : Bytes8 w A m c l) (hs : sealE kind no l.length ≠ 0) :
    Calls Tryz.prog 37 #[pv, .int .i64 no, .int .i64 kind, .slice A m c] w fun e w' => ∃ v, e = .returned v ∧ ErrAt w' v no (sealE kind no l.length) ∧ Below w.heap.size w w' := by
  have S := Lib.hid (Seal_any kind no A m c l w hB)
  have AT := Lib.hid (fun x W => bat_any no x W)
  rw [hB.len] at hs ⊢
  have hne : (sealE kind no m == 0) = false := by simpa using hs
  clear hB
  generalize sealE kind no m = x at *
  generalize sealB kind no l = bb at *
  go_enter Tryz.func37, Tryz.ntmps37
  go_wp2_with (first
    | (go_at_call 54; (with_reducible refine (S.out).mono ?_); rintro e w1 ⟨A1, m1, c1, rfl, hB1, hb1⟩; clear hB1)
    | (go_at_call 56; (with_reducible refine (AT.out _ _).mono ?_); rintro e w4 ⟨v, rfl, hv, hb4⟩; have HV := Lib.hid hv; clear hv))
  go_ret
  exact ⟨v, rfl, HV.out, hb1.trans (hb4.mono hb1.size)⟩

/-! what image's Write may do: the error, and what it leaves, which bears what is laid behind -/
set_option maxRecDepth 100000 in
set_option maxHeartbeats 1600000 in
theorem blockWrite_of {w : World} (pv : Value) (no kind y : Int) {A : Option Addr} {m c : Nat} {l : List UInt8} (hB : Bytes8 w A m c l) (hs : sealE kind no l.length = 0) (r : Option Nat) (Q : World → Prop) (hQ : ∀ W W', Below W.heap.size W W' → Q W → Q W')
    (WR : ∀ W A c, Below w.heap.size w W → Bytes8 W A 256 c (sealB kind no l) → Calls Tryz.prog 55 #[pv, .int .i64 no, .slice A 256 c] W fun e w' => e = .returned (.int .i64 y) ∧ Q w' ∧ W.grownBy w' r) :
    Calls Tryz.prog 37 #[pv, .int .i64 no, .int .i64 kind, .slice A m c] w fun e w' => ∃ v, e = .returned v ∧ ErrAt w' v no y ∧ Q w' ∧ w.grownBy w' r := by
  have S : Hid (Calls Tryz.prog 54 #[.int .i64 kind, .int .i64 no, .slice A m c] w fun e w' => ∃ g, e = .returned (.tuple #[.slice (some ⟨g, 0, none⟩) 256 256, .int .i64 0]) ∧ Bytes8 w' (some ⟨g, 0, none⟩) 256 256 (sealB kind no l) ∧ Below w.heap.size w w') :=
    (Seal_good kind no A m c l w hB (by rw [← hB.len]; exact hs)).mono fun e w' ⟨g, h1, h2, h3⟩ => ⟨g, h1, h2.bytes (n := 256) (sealB_length hs) (by omega), h3⟩
  have W2 := Lib.hid WR
  have HQ := Lib.hid hQ
  have AT := Lib.hid (fun x W => bat_any no x W)
  clear hB hs WR hQ
  generalize sealB kind no l = bb at *
  go_enter Tryz.func37, Tryz.ntmps37
  go_wp2_with (first
    | (go_at_call 54; (with_reducible refine (S.out).mono ?_); rintro e w1 ⟨g1, rfl, hB1, hb1⟩; have HB1 := Lib.hid hB1; clear hB1)
    | (go_at_call 55; (with_reducible refine (W2.out _ _ _ hb1 HB1.out).mono ?_); rintro e w2 ⟨rfl, hq, hg⟩; have HQ2 := Lib.hid hq; have HG := Lib.hid hg; clear hq hg)
    | (go_at_call 56; (with_reducible refine (AT.out _ _).mono ?_); rintro e w4 ⟨v, rfl, hv, hb4⟩; have HV := Lib.hid hv; clear hv))
  go_ret
  exact ⟨v, rfl, HV.out, HQ.out _ _ hb4 HQ2.out, grown_trans (grown_trans (grown_below hb1 _) HG.out) (grown_below hb4 _)⟩

/-- of an image -/
theorem blockWrite_any {w : World} {B p g n : Nat} {L : List UInt8} (no kind : Int) (h : Img w B p g L) (hL : L.length = n * 256) {A : Option Addr} {m c : Nat} {l : List UInt8} (hB : Bytes8 w A m c l) :
    Calls Tryz.prog 37 #[.pointer (some ⟨p, 0, none⟩), .int .i64 no, .int .i64 kind, .slice A m c] w fun e w' => ∃ v, e = .returned v ∧ ErrAt w' v no (wrE11 n no kind l) ∧ Img w' B p g (wrL11 L n no kind l) ∧ w.grownBy w' (some g) := by
  by_cases hs : sealE kind no l.length = 0
  · have := blockWrite_of (.pointer (some ⟨p, 0, none⟩)) no kind (if outB n no = true then 3 else 0) hB hs (some g) (fun W => Img W B p g (if outB n no = true then L else splice L (no.toNat * 256) (sealB kind no l))) (fun W W' hb hi => hi.later hb) (fun W A c hW hb => imgWrite_any no A c (h.later hW) hL hb)
    rw [wrE11_ok hs]
    cases ho : outB n no with
    | true =>
      rw [wrL11_bad (by rw [wrE11_ok hs, ho]; decide)]
      simp only [ho] at this
      exact this
    | false =>
      rw [wrL11_good (by rw [wrE11_ok hs, ho]; rfl)]
      simp only [ho] at this
      exact this
  · rw [wrL11_bad (by rw [wrE11_seal hs]; exact hs), wrE11_seal hs]
    exact (blockWrite_bad _ no kind hB hs).mono fun e w' ⟨v, h1, h2, h3⟩ => ⟨v, h1, h2, h.later h3, grown_below h3 _⟩
/-! ### the reference's -/
/-- an error's variable; all stands as it stood but block g -/
structure BxG (w W : World) (g : Nat) : Prop where
  flt : FltAt W w.heap.size (.slice none 0 0) (.int .i64 0)
  gr : w.grownBy W (some g)
theorem BxG.later {w W W' : World} {g : Nat} (h : BxG w W g) (hb : Below W.heap.size W W') : BxG w W' g := ⟨h.flt.later hb, grown_trans h.gr (grown_below hb _)⟩
theorem BxG.start (w : World) (g : Nat) : BxG w (w.alloc (.cells #[.slice none 0 0, .int .i64 0] 37)) g := ⟨FltAt.new w _ _, grown_below ((Below.refl _ _).alloc (Nat.le_refl _) _) _⟩
theorem RImg.grown {w w' : World} {B p g : Nat} {v : Value} {L : List (List UInt8)} (h : RImg w B p v L) (hk : w.grownBy w' (some g)) (hg : g < p) : RImg w' B p v L := by
  refine ⟨h.bp, (hk.block p h.plt (fun e => by injection e; omega)).trans h.hp, h.own.1, ?_⟩
  rcases h.own.2 with hn | ⟨g2, cap, cur, hv, hg2, hh, rest⟩
  · exact .inl hn
  · exact .inr ⟨g2, cap, cur, hv, hg2, (hk.block g2 (block_lt hh) (fun e => by injection e; omega)).trans hh, rest⟩
theorem RImg.box {w : World} {B p : Nat} {v : Value} {L : List (List UInt8)} (h : RImg w B p v L) {q : Nat} {a b : Value} (hf : FltAt w q a b) (c d : Value) : RImg ((w.setCell ⟨q, 0, none⟩ c).setCell ⟨q, 1, none⟩ d) B p v L := by
  have hp : p ≠ q := fun e => by
    have := h.hp
    rw [e, show w.heap[q]? = _ from hf] at this
    injection this with this
    injection this with _ e2 _
    exact absurd e2 (by decide)
  refine ⟨h.bp, two_other h.hp hp _ _, h.own.1, ?_⟩
  rcases h.own.2 with hn | ⟨g2, cap, cur, hv, hg2, hh, rest⟩
  · exact .inl hn
  · have hne : g2 ≠ q := fun e => by
      rw [e, show w.heap[q]? = _ from hf] at hh
      injection hh with hh
      injection hh with _ e2 _
      exact absurd e2 (by decide)
    exact .inr ⟨g2, cap, cur, hv, hg2, two_other hh hne _ _, rest⟩

end Go.Proofs.YtajeelbeochojaaGreatDoor

/-
  Layer 16: Next, Lay, slices.Clone, Ahead.
-/
namespace Go.Proofs.YtajeelbeochojaaGreatDoor
open Go.RowKit
set_option linter.unusedVariables false
set_option linter.unusedSimpArgs false

section
variable {w : World} {base p m : Nat} {A : Option Addr} {n c : Nat} {l : List Int} {t : Nat}
theorem Next_none16 (h : Alc w base p m A n c l t) (ht : n = t) : Calls Tryz.prog 15 #[.pointer (some ⟨p, 0, none⟩)] w fun e w' => e = .returned (.tuple #[.int .i64 0, .iface 60 (.int .i64 14)]) ∧ Below w.heap.size w w' := by
  have NX := Lib.hid (next_none16 h ht)
  clear h ht
  go_enter Tryz.func15, Tryz.ntmps15
  go_wp2_with (go_at_call 35; (with_reducible refine (NX.out).mono ?_); rintro e w1 ⟨rfl, hb⟩)
  go_ret2
  exact ⟨rfl, hb⟩

theorem Next_no16 {v : Value} (w : World) (h : No16 w v) : Calls Tryz.prog 15 #[v] w fun e w' => e = .returned (.tuple #[.int .i64 0, .iface 60 (.int .i64 18)]) ∧ w = w' := by
  have NX := Lib.hid (next_no16 w h)
  clear h
  go_enter Tryz.func15, Tryz.ntmps15
  go_wp2_with (go_at_call 35; (with_reducible refine (NX.out).mono ?_); rintro e w1 ⟨rfl, rfl⟩)
  go_ret2
  exact ⟨rfl, rfl⟩

theorem Next_some16 (h : Alc w base p m A n c l t) (ht : t < n) : Calls Tryz.prog 15 #[.pointer (some ⟨p, 0, none⟩)] w fun e w' => e = .returned (.tuple #[.int .i64 (l.getD t 0), .nilIface]) ∧ Alc w' base p m A n c l (t + 1) ∧ w.grownBy w' (some p) := by
  have NX : Hid (Calls Tryz.prog 35 #[.pointer (some ⟨p, 0, none⟩)] w fun e w' => e = .returned (.tuple #[.int .i64 (l.getD t 0), .nilIface]) ∧ Hid (Alc w' base p m A n c l t) ∧ Below w.heap.size w w') := (next_some16 h ht).mono fun e w' ⟨h1, h2⟩ => ⟨h1, h.later h2, h2⟩
  have TK : Hid (∀ W, Alc W base p m A n c l t → Calls Tryz.prog 36 #[.pointer (some ⟨p, 2, none⟩)] W fun e w' => e = .returned (.tuple #[]) ∧ Hid (Alc w' base p m A n c l (t + 1)) ∧ W.grownBy w' (some p)) := fun W hW => take16 hW ht
  clear h ht
  generalize l.getD t 0 = x at *
  go_enter Tryz.func15, Tryz.ntmps15
  go_wp2_with (first
    | (go_at_call 35; (with_reducible refine (NX.out).mono ?_); rintro e w1 ⟨rfl, ha, hb⟩)
    | (go_at_call 36; (with_reducible refine (TK.out _ ha.out).mono ?_); rintro e w2 ⟨rfl, ha2, hg2⟩))
  go_ret2
  exact ⟨rfl, ha2.out, grown_trans (grown_below hb _) hg2⟩

/-- all but two blocks as it was -/
structure Fr2 (w w' : World) (r1 r2 : Option Nat) : Prop where
  os : w'.os = w.os
  tape : w'.tape = w.tape
  output : w'.output = w.output
  size : w.heap.size ≤ w'.heap.size
  block : ∀ k, k < w.heap.size → some k ≠ r1 → some k ≠ r2 → w'.heap[k]? = w.heap[k]?
theorem Fr2.of_below {w w' : World} (h : Below w.heap.size w w') (r1 r2 : Option Nat) : Fr2 w w' r1 r2 := ⟨h.os, h.tape, h.output, h.size, fun k hk _ _ => h.block k hk⟩
theorem Fr2.trans {a b c : World} {r1 r2 : Option Nat} (h : Fr2 a b r1 r2) (k : Fr2 b c r1 r2) : Fr2 a c r1 r2 := ⟨k.os.trans h.os, k.tape.trans h.tape, k.output.trans h.output, Nat.le_trans h.size k.size, fun i hi h1 h2 => (k.block i (Nat.lt_of_lt_of_le hi h.size) h1 h2).trans (h.block i hi h1 h2)⟩
/-- an allocator and its image -/
structure AImg (w : World) (base p m B g : Nat) (A : Option Addr) (n c : Nat) (l : List Int) (t : Nat) (L : List UInt8) : Prop where
  alc : Alc w base p m A n c l t
  img : Img w B m g L
  mlt : m < base
  glt : g < base
end
theorem AImg.later {w w' : World} {base p m B g : Nat} {A : Option Addr} {n c : Nat} {l : List Int} {t : Nat} {L : List UInt8} (h : AImg w base p m B g A n c l t L) (hb : Below w.heap.size w w') : AImg w' base p m B g A n c l t L := ⟨h.alc.later hb, h.img.later hb, h.mlt, h.glt⟩

section
variable {w : World} {base p m B g : Nat} {A : Option Addr} {n c : Nat} {l : List Int} {t : Nat} {L : List UInt8}
theorem AImg.next (h : AImg w base p m B g A n c l t L) (ht : t < n) : Calls Tryz.prog 15 #[.pointer (some ⟨p, 0, none⟩)] w fun e w' => e = .returned (.tuple #[.int .i64 (l.getD t 0), .nilIface]) ∧ AImg w' base p m B g A n c l (t + 1) L ∧ w.grownBy w' (some p) :=
  (Next_some16 h.alc ht).mono fun e w' ⟨h1, h2, h3⟩ => ⟨h1, ⟨h2, ⟨h.img.bp, h.img.bg, h.img.ne, (h3.block m h.img.plt (fun e => by injection e with e; have := h.mlt; have := h.alc.bp; omega)).trans h.img.hp, (h3.block g h.img.glt (fun e => by injection e with e; have := h.glt; have := h.alc.bp; omega)).trans h.img.hg, h.img.most⟩, h.mlt, h.glt⟩, h3⟩

theorem Lay_none16 (kind : Int) (Ai : Option Addr) (ni ci : Nat) (h : Alc w base p m A n c l t) (ht : n = t) : Calls Tryz.prog 17 #[.pointer (some ⟨p, 0, none⟩), .int .i64 kind, .slice Ai ni ci] w fun e w' => e = .returned (.tuple #[.int .i64 0, .iface 60 (.int .i64 14)]) ∧ Below w.heap.size w w' := by
  have NX := Lib.hid (next_none16 h ht)
  clear h ht
  go_enter Tryz.func17, Tryz.ntmps17
  go_wp2_with (go_at_call 35; (with_reducible refine (NX.out).mono ?_); rintro e w1 ⟨rfl, hb⟩)
  go_ret2
  exact ⟨rfl, hb⟩

theorem Lay_no16 {v : Value} (kind : Int) (Ai : Option Addr) (ni ci : Nat) (w : World) (h : No16 w v) : Calls Tryz.prog 17 #[v, .int .i64 kind, .slice Ai ni ci] w fun e w' => e = .returned (.tuple #[.int .i64 0, .iface 60 (.int .i64 18)]) ∧ w = w' := by
  have NX := Lib.hid (next_no16 w h)
  clear h
  go_enter Tryz.func17, Tryz.ntmps17
  go_wp2_with (go_at_call 35; (with_reducible refine (NX.out).mono ?_); rintro e w1 ⟨rfl, rfl⟩)
  go_ret2
  exact ⟨rfl, rfl⟩

/-- a block is left, and it is written -/
theorem Lay_good16 {q : Nat} (kind : Int) {Ai : Option Addr} {ni ci : Nat} {li : List UInt8} (h : AImg w base p m B g A n c l t L) (hL : L.length = q * 256) (ht : t < n) (hB : Bytes8 w Ai ni ci li) (hx : wrE11 q (l.getD t 0) kind li = 0) :
    Calls Tryz.prog 17 #[.pointer (some ⟨p, 0, none⟩), .int .i64 kind, .slice Ai ni ci] w fun e w' => e = .returned (.tuple #[.int .i64 (l.getD t 0), .nilIface]) ∧ AImg w' base p m B g A n c l (t + 1) (wrL11 L q (l.getD t 0) kind li) ∧ ∃ W, w.grownBy W (some g) ∧ W.grownBy w' (some p) := by
  have NX : Hid (Calls Tryz.prog 35 #[.pointer (some ⟨p, 0, none⟩)] w fun e w' => e = .returned (.tuple #[.int .i64 (l.getD t 0), .nilIface]) ∧ w'.cell? ⟨p, 1, none⟩ = some (.pointer (some ⟨m, 0, none⟩)) ∧ Below w.heap.size w w') := (next_some16 h.alc ht).mono fun e w' ⟨h1, h2⟩ => ⟨h1, (h.alc.later h2).cell1, h2⟩
  have WR : Hid (∀ W, Below w.heap.size w W → Calls Tryz.prog 37 #[.pointer (some ⟨m, 0, none⟩), .int .i64 (l.getD t 0), .int .i64 kind, .slice Ai ni ci] W fun e w' => e = .returned .nilIface ∧ Hid (AImg w' base p m B g A n c l t (wrL11 L q (l.getD t 0) kind li)) ∧ W.grownBy w' (some g)) := fun W hW => by
    refine (blockWrite_any (l.getD t 0) kind (h.later hW).img hL (hB.below hW)).mono ?_
    rintro e w' ⟨v, h1, h2, h3, h4⟩
    have hv : v = .nilIface := by
      rcases h2 with ⟨_, h⟩ | ⟨h, _⟩
      · exact h
      · exact absurd hx h
    subst hv
    exact ⟨h1, ⟨(h.later hW).alc.grown h4 h.glt, h3, h.mlt, h.glt⟩, h4⟩
  have NE : Hid (∀ W L', AImg W base p m B g A n c l t L' → Calls Tryz.prog 15 #[.pointer (some ⟨p, 0, none⟩)] W fun e w' => e = .returned (.tuple #[.int .i64 (l.getD t 0), .nilIface]) ∧ Hid (AImg w' base p m B g A n c l (t + 1) L') ∧ W.grownBy w' (some p)) := fun W L' hW => hW.next ht
  clear h ht hB hx
  generalize wrL11 L q (l.getD t 0) kind li = L2 at *
  generalize l.getD t 0 = no at *
  go_enter Tryz.func17, Tryz.ntmps17
  go_wp2_with (first
    | (go_at_call 35; (with_reducible refine (NX.out).mono ?_); rintro e w1 ⟨rfl, hc1, hb⟩)
    | (go_at_call 37; (with_reducible refine (WR.out _ hb).mono ?_); rintro e w2 ⟨rfl, hi, hg⟩)
    | (go_at_call 15; (with_reducible refine (NE.out _ _ hi.out).mono ?_); rintro e w3 ⟨rfl, hi3, hg3⟩))
  go_ret2
  exact ⟨rfl, hi3.out, w2, grown_trans (grown_below hb _) hg, hg3⟩
end

/-! ### slices.Clone, Ahead -/
theorem lt_of_own16 {w : World} {base : Nat} {e : TypeId} {size n m c : Nat} {A : Option Addr} {xs : List Value} (h : w.ownsRow base e size (.slice A m c) n xs) : ∀ ad, A = some ad → ad.block < w.heap.size := by
  intro ad e
  subst e
  rcases h.2 with ⟨hv, _⟩ | ⟨g, cap, cur, hv, hg, hh, _⟩
  · cases hv
  · injection hv with h1
    injection h1 with h1
    rw [h1]
    exact block_lt hh
theorem eql_slice16 (A : Option Addr) (n c : Nat) (w : World) : (binOp .eql 23 (.slice A n c) (.slice none 0 0)).run Tryz.prog w = .ok (.bool A.isNone) w := by
  have h : ∀ d : Nat, (Op.equalIn (d + 1) 23 (.slice A n c) (.slice none 0 0)).run Tryz.prog w = .ok A.isNone w := fun d => by
    cases A <;> simp [Op.equalIn, run_underlying Tryz.underlying23]
  simp only [binOp]
  simp [Op.equal, Op.maxDepth, h 9999]
set_option maxRecDepth 100000 in
set_option maxHeartbeats 800000 in
theorem Clone16 {w : World} {A : Option Addr} {n c : Nat} {l : List Int} (h : Ints w A n c l) (hn : n ≤ 17592186044416) :
    Calls Tryz.prog 33 #[.slice A n c] w fun e w' => ∃ A2 c2, e = .returned (.slice A2 n c2) ∧ Ints w' A2 n c2 l ∧ Newer w.heap.size A2 ∧ (∀ ad, A2 = some ad → ad.block < w'.heap.size) ∧ Below w.heap.size w w' := by
  cases A with
  | none =>
    obtain rfl : l = [] := by
      cases l with
      | nil => rfl
      | cons x r => obtain ⟨ad, e, _⟩ := h.row 0 (.int .i64 x) rfl; cases e
    obtain rfl : n = 0 := h.len.symm
    clear h
    have kn : (binOp .eql 23 (.slice none 0 c) (.slice none 0 0)).run Tryz.prog w = .ok (.bool true) w := eql_slice16 none 0 c w
    go_enter Tryz.func33, Tryz.ntmps33
    go_wp2
    go_ret
    exact ⟨none, 0, rfl, Ints.nil _, Newer.nil _, fun ad e => (by cases e), Below.refl _ _⟩
  | some ad =>
    have HI := Lib.hid h
    have hl := h.len
    have HL := Lib.hid hl
    clear h hl
    have kn : (binOp .eql 23 (.slice (some ad) n c) (.slice none 0 0)).run Tryz.prog w = .ok (.bool false) w := eql_slice16 (some ad) n c w
    go_enter Tryz.func33, Tryz.ntmps33
    go_wp2_with (at_builtin; refine wpList_append_row _ rfl _ _ 23 rfl w.heap.size 3 (.int .i64 0) 8 Tryz.underlying23 info_i64 rfl _ 0 [] rfl (own_empty w 3) (by simp) (some ad) (i64s l) n c rfl (by rw [i64s_length]; exact HL.out) (HI.out.row.below ((Below.refl _ _).alloc (Nat.le_refl _) _)) (i64s_one _) (by omega) (by omega) ?_; intro v2 w2 hown2 hs2 hb2)
    have hx := hown2.out
    rw [Nat.zero_add, List.nil_append] at hx
    obtain ⟨A2, c2, rfl, hI2⟩ := Ints.of_own hx
    have hN2 := Newer.of_own hx
    have hT2 := lt_of_own16 hx
    go_ret
    exact ⟨A2, c2, rfl, hI2, hN2, hT2, ((Below.refl w.heap.size w).alloc (Nat.le_refl _) (.cells #[] 3)).trans hb2⟩
end Go.Proofs.YtajeelbeochojaaGreatDoor

/-
  Layer 16: Ahead; what a nobody tells; From.
-/
namespace Go.Proofs.YtajeelbeochojaaGreatDoor
open Go.RowKit
set_option linter.unusedVariables false
set_option linter.unusedSimpArgs false

section
variable {w : World} {base p m : Nat} {A : Option Addr} {n c : Nat} {l : List Int} {t : Nat}
end

/-! ### nobody -/
section
variable {v : Value} (w : World) (h : No16 w v)
include h
theorem Left_no16 : Calls Tryz.prog 19 #[v] w fun e w' => e = .returned (.int .i64 0) ∧ w = w' := by
  have MD := Lib.hid (made_no16 w h)
  clear h
  go_enter Tryz.func19, Tryz.ntmps19
  go_wp2_with (go_at_call 39; (with_reducible refine (MD.out).mono ?_); rintro e w1 ⟨rfl, rfl⟩)
  go_ret
  exact ⟨rfl, rfl⟩
theorem Used_no16 : Calls Tryz.prog 20 #[v] w fun e w' => e = .returned (.int .i64 0) ∧ w = w' := by
  have MD := Lib.hid (made_no16 w h)
  clear h
  go_enter Tryz.func20, Tryz.ntmps20
  go_wp2_with (go_at_call 39; (with_reducible refine (MD.out).mono ?_); rintro e w1 ⟨rfl, rfl⟩)
  go_ret
  exact ⟨rfl, rfl⟩
theorem Image_no16 : Calls Tryz.prog 24 #[v] w fun e w' => e = .returned (.pointer none) ∧ w = w' := by
  have MD := Lib.hid (made_no16 w h)
  clear h
  go_enter Tryz.func24, Tryz.ntmps24
  go_wp2_with (go_at_call 39; (with_reducible refine (MD.out).mono ?_); rintro e w1 ⟨rfl, rfl⟩)
  go_ret
  exact ⟨rfl, rfl⟩
theorem Ahead_no16 : Calls Tryz.prog 22 #[v, .int .i64 3] w fun e w' => e = .returned (.slice none 0 0) ∧ w = w' := by
  have LF := Lib.hid (Left_no16 w h)
  clear h
  go_enter Tryz.func22, Tryz.ntmps22
  go_wp2_with (go_at_call 19; (with_reducible refine (LF.out).mono ?_); rintro e w1 ⟨rfl, rfl⟩)
  go_ret
  exact ⟨rfl, rfl⟩
end

/-! ### From -/
/-- is x no block of q that may be handed out? -/
def outR16 (q : Nat) (x : Int) : Bool := decide (x < 1) || decide ((q : Int) ≤ x)
/-- do they rise? -/
def Rises16 (l : List Int) : Prop := ∀ i, i + 1 < l.length → l.getD i 0 < l.getD (i + 1) 0

set_option maxRecDepth 100000 in
theorem out_any16 {B m g q : Nat} {L : List UInt8} (bx : Nat) (x : Int) (w : World) (hI : Img w B m g L) (hL : L.length = q * 256) (hbx : w.cell? ⟨bx, 0, none⟩ = some (.pointer (some ⟨m, 0, none⟩))) :
    Calls Tryz.prog 32 #[.int .i64 x, .pointer (some ⟨bx, 0, none⟩)] w fun e w' => e = .returned (.bool (outR16 q x)) ∧ w = w' := by
  have BK := Lib.hid (Blocks_img w hI hL)
  clear hI hL
  by_cases h1 : x < 1
  · rw [show outR16 q x = true by simp [outR16, h1]]
    go_enter Tryz.func32, Tryz.ntmps32
    go_wp2
    go_ret
    exact ⟨rfl, rfl⟩
  · have e : outR16 q x = decide ((q : Int) ≤ x) := by simp [outR16, h1]
    rw [e]
    go_enter Tryz.func32, Tryz.ntmps32
    go_wp2_with (go_at_call 30; (with_reducible refine (BK.out).mono ?_); rintro e w1 ⟨rfl, rfl⟩)
    go_ret
    exact ⟨rfl, rfl⟩

set_option maxRecDepth 100000 in
theorem IndexFunc16 {A : Option Addr} {n c : Nat} {l : List Int} (bx : Nat) (f : Int → Bool) (w : World) (h : Ints w A n c l)
    (hf : ∀ x, Calls Tryz.prog 32 #[.int .i64 x, .pointer (some ⟨bx, 0, none⟩)] w fun e w' => e = .returned (.bool (f x)) ∧ w = w') :
    Calls Tryz.prog 51 #[.slice A n c, .func (.func 32) #[] #[.pointer (some ⟨bx, 0, none⟩)]] w fun e w' => ∃ i : Int, e = .returned (.int .i64 i) ∧ (0 ≤ i ↔ l.any f = true) ∧ w = w' := by
  have hl := h.len
  have hle := h.le
  have HI := Lib.hid h
  have HL := Lib.hid hl
  have HF := Lib.hid hf
  clear h hl hf
  go_enter Tryz.func51, Tryz.ntmps51
  go_wp2
  go_loopw [8] (fun i wr => ∃ k : Nat, k ≤ n ∧ i = .int .i64 k ∧ wr = w ∧ Hid ((l.take k).any f = false)) (fun i _ => n - (intOf i).toNat)
  case atStart => exact ⟨0, by omega, rfl, rfl, by simp [Hid]⟩
  case round =>
    obtain ⟨k, hk, rfl, rfl, hno⟩ := hrel
    by_cases hlt : k < n
    · have hkl : k < l.length := by have := HL.out; omega
      obtain ⟨b, off, rfl, hb, hc⟩ := HI.out.row.lit (by rw [i64s_length]; omega)
      have hck := hc k _ (i64s_at l k hkl)
      have HT := Lib.hid (List.take_succ_eq_append_getElem hkl)
      have HM := Lib.hid (List.getElem_mem hkl)
      clear hc
      generalize l[k] = x at *
      cases hx : f x with
      | true =>
        have FX : Hid (Calls Tryz.prog 32 #[.int .i64 x, .pointer (some ⟨bx, 0, none⟩)] wr fun e w' => e = .returned (.bool true) ∧ wr = w') := by have := HF.out x; rwa [hx] at this
        have HX := Lib.hid hx
        clear hx
        go_wp2_with (go_at_call 32; (with_reducible refine (FX.out).mono ?_); rintro e w1 ⟨rfl, rfl⟩)
        go_ret
        exact ⟨_, rfl, ⟨fun _ => List.any_eq_true.2 ⟨x, HM.out, HX.out⟩, fun _ => by omega⟩, rfl⟩
      | false =>
        have FX : Hid (Calls Tryz.prog 32 #[.int .i64 x, .pointer (some ⟨bx, 0, none⟩)] wr fun e w' => e = .returned (.bool false) ∧ wr = w') := by have := HF.out x; rwa [hx] at this
        have HX := Lib.hid hx
        clear hx
        go_wp2_with (go_at_call 32; (with_reducible refine (FX.out).mono ?_); rintro e w1 ⟨rfl, rfl⟩)
        go_roundw
        case rel =>
          refine ⟨k + 1, by omega, by go_num, by first | rfl | trivial, ?_⟩
          show _ = _
          rw [HT.out, List.any_append, hno.out]
          simp [HX.out]
        case measure => simp only [intOf]; omega
    · obtain rfl : k = n := by omega
      go_wp2
      go_ret
      refine ⟨_, rfl, ⟨fun h => by omega, fun hm => ?_⟩, rfl⟩
      have := hno.out
      rw [List.take_of_length_le (by have := HL.out; omega)] at this
      rw [this] at hm
      cases hm

set_option maxRecDepth 100000 in
theorem ContainsFunc16 {A : Option Addr} {n c : Nat} {l : List Int} (bx : Nat) (f : Int → Bool) (w : World) (h : Ints w A n c l)
    (hf : ∀ x, Calls Tryz.prog 32 #[.int .i64 x, .pointer (some ⟨bx, 0, none⟩)] w fun e w' => e = .returned (.bool (f x)) ∧ w = w') :
    Calls Tryz.prog 31 #[.slice A n c, .func (.func 32) #[] #[.pointer (some ⟨bx, 0, none⟩)]] w fun e w' => e = .returned (.bool (l.any f)) ∧ w = w' := by
  have IX := Lib.hid (IndexFunc16 bx f w h hf)
  clear h hf
  cases hm : l.any f with
  | true =>
    have HM := Lib.hid hm
    clear hm
    go_enter Tryz.func31, Tryz.ntmps31
    go_wp2_with (go_at_call 51; (with_reducible refine (IX.out).mono ?_); rintro e w1 ⟨i, rfl, hi, rfl⟩; have hi0 : 0 ≤ i := hi.2 HM.out; clear hi)
    go_ret
    exact ⟨rfl, rfl⟩
  | false =>
    have HM := Lib.hid hm
    clear hm
    go_enter Tryz.func31, Tryz.ntmps31
    go_wp2_with (go_at_call 51; (with_reducible refine (IX.out).mono ?_); rintro e w1 ⟨i, rfl, hi, rfl⟩; have hi0 : decide (0 ≤ i) = false := decide_eq_false (fun h => by have := hi.1 h; rw [HM.out] at this; cases this); clear hi)
    go_ret
    exact ⟨rfl, rfl⟩

end Go.Proofs.YtajeelbeochojaaGreatDoor

/-
  Layer 16: From, New.
-/
namespace Go.Proofs.YtajeelbeochojaaGreatDoor
open Go.RowKit
set_option linter.unusedVariables false
set_option linter.unusedSimpArgs false

theorem build_queue16 (A : Option Addr) (n c : Nat) (w : World) : (Instr.build 64 #[(0, .slice A n c)]).run Tryz.prog w = .ok (.agg #[.slice A n c, .int .i64 0]) w := run_build w _ _ _ (by kernel_rfl)
theorem build_alloc16 (m : Nat) (A : Option Addr) (n c : Nat) (w : World) : (Instr.build 66 #[(1, .pointer (some ⟨m, 0, none⟩)), (2, .agg #[.slice A n c, .int .i64 0])]).run Tryz.prog w = .ok (.agg #[.pointer none, .pointer (some ⟨m, 0, none⟩), .slice A n c, .int .i64 0]) w := run_build w _ _ _ (by kernel_rfl)

/-- of no image -/
theorem From_nil16 (A : Option Addr) (n c : Nat) (w : World) : Calls Tryz.prog 11 #[.pointer none, .slice A n c] w fun e w' => e = .returned (.tuple #[.pointer none, .iface 60 (.int .i64 1)]) ∧ Below w.heap.size w w' := by
  have hb : Below w.heap.size w (w.alloc (.cells #[.pointer none] 26)) := (Below.refl _ _).alloc (Nat.le_refl _) _
  go_enter Tryz.func11, Tryz.ntmps11
  go_wp2
  go_ret2
  exact ⟨rfl, hb⟩

theorem Alc.new {w : World} {base m n c : Nat} {A : Option Addr} {l : List Int} (hI : Ints w A n c l) (hN : Newer base A) (hT : ∀ ad, A = some ad → ad.block < w.heap.size) (hb : base ≤ w.heap.size) :
    Alc (w.alloc (.cells #[.pointer (some ⟨w.heap.size, 0, none⟩), .pointer (some ⟨m, 0, none⟩), .slice A n c, .int .i64 0] 66)) base w.heap.size m A n c l 0 :=
  ⟨hb, heap_alloc_new w _, hI.below ((Below.refl _ _).alloc (Nat.le_refl _) _), Nat.zero_le _, fun ad e => ⟨hN ad e, hT ad e⟩⟩

section
variable {w : World} {B m g q : Nat} {L : List UInt8} {A : Option Addr} {n c : Nat} {l : List Int}
/-- the image's variable in its box -/
theorem box16 (hI : Img w B m g L) (hL : L.length = q * 256) (h : Ints w A n c l) (W : World) (hb : Below (w.heap.size + 1) (w.alloc (.cells #[.pointer (some ⟨m, 0, none⟩)] 26)) W) :
    Calls Tryz.prog 31 #[.slice A n c, .func (.func 32) #[] #[.pointer (some ⟨w.heap.size, 0, none⟩)]] W fun e w' => e = .returned (.bool (l.any (outR16 q))) ∧ W = w' := by
  have h1 : W.cell? ⟨w.heap.size, 0, none⟩ = some (.pointer (some ⟨m, 0, none⟩)) := by
    rw [hb.cell (p := ⟨w.heap.size, 0, none⟩) (by simp)]
    exact cell_of_row _ _ 0 _ _ _ (heap_alloc_new w _)
  have hw : Below w.heap.size w W := ((Below.refl _ _).alloc (Nat.le_refl _) _).trans (hb.mono (by omega))
  exact ContainsFunc16 _ _ W (h.below hw) (fun x => out_any16 _ x W (hI.later hw) hL h1)

set_option maxRecDepth 100000 in
set_option maxHeartbeats 1600000 in
theorem From_good16 (hI : Img w B m g L) (hL : L.length = q * 256) (h : Ints w A n c l) (ho : l.any (outR16 q) = false) (hr : Rises16 l) (hn : n ≤ 1000000) :
    Calls Tryz.prog 11 #[.pointer (some ⟨m, 0, none⟩), .slice A n c] w fun e w' => ∃ p A2 c2, e = .returned (.tuple #[.pointer (some ⟨p, 0, none⟩), .nilIface]) ∧ Alc w' w.heap.size p m A2 n c2 l 0 ∧ Below w.heap.size w w' := by
  have CF := Lib.hid (box16 hI hL h _ (Below.refl _ _))
  rw [ho] at CF
  have hb : Below w.heap.size w (w.alloc (.cells #[.pointer (some ⟨m, 0, none⟩)] 26)) := (Below.refl _ _).alloc (Nat.le_refl _) _
  have hc : (w.alloc (.cells #[.pointer (some ⟨m, 0, none⟩)] 26)).cell? ⟨w.heap.size, 0, none⟩ = some (.pointer (some ⟨m, 0, none⟩)) := cell_of_row _ _ 0 _ _ _ (heap_alloc_new w _)
  obtain ⟨w0, hw0⟩ : ∃ w0, w.alloc (.cells #[.pointer (some ⟨m, 0, none⟩)] 26) = w0 := ⟨_, rfl⟩
  rw [hw0] at hb hc CF
  have HI := Lib.hid (h.below hb)
  have hle := h.le
  have HL := Lib.hid h.len
  have HR := Lib.hid hr
  have HB := Lib.hid hb
  clear hI hL h ho hr hb
  go_enter Tryz.func11, Tryz.ntmps11
  go_wp2_with (go_at_call 31; (with_reducible refine (CF.out).mono ?_); rintro e w1 ⟨rfl, rfl⟩)
  go_loopw [6] (fun i wr => ∃ j : Nat, (j + 1 ≤ n ∨ j = 0) ∧ i = .int .i64 ((j : Int) + 1) ∧ Hid (Below w0.heap.size w0 wr)) (fun i _ => n - (intOf i).toNat)
  case atStart => exact ⟨0, .inr rfl, by go_num, Below.refl _ _⟩
  case round =>
    obtain ⟨j, hj, rfl, hbr⟩ := hrel
    by_cases hlt : j + 1 < n
    · have hkl : j + 1 < l.length := by have := HL.out; omega
      obtain ⟨b, off, rfl, hbl, hcc⟩ := HI.out.row.lit (by rw [i64s_length]; omega)
      have hc0 : wr.cell? ⟨b, off + j, none⟩ = some (.int .i64 (l.getD j 0)) := by
        rw [hbr.out.cell (p := ⟨b, off + j, none⟩) hbl, hcc j _ (i64s_at l j (by omega))]
        simp [List.getD_eq_getElem?_getD, List.getElem?_eq_getElem (show j < l.length by omega)]
      have hc1 : wr.cell? ⟨b, off + (j + 1), none⟩ = some (.int .i64 (l.getD (j + 1) 0)) := by
        rw [hbr.out.cell (p := ⟨b, off + (j + 1), none⟩) hbl, hcc (j + 1) _ (i64s_at l (j + 1) hkl)]
        simp [List.getD_eq_getElem?_getD, List.getElem?_eq_getElem hkl]
      clear hcc
      have hx := HR.out j hkl
      generalize l.getD (j + 1) 0 = x1 at hc1 hx
      generalize l.getD j 0 = x0 at hc0 hx
      have hd : decide (x1 ≤ x0) = false := decide_eq_false (by omega)
      go_wp2
      go_quiet (fail)
      go_wp2
      go_roundw
      case rel => exact ⟨j + 1, by omega, by go_num, below_drewN hbr.out _⟩
      case measure => simp only [intOf]; omega
    · have hcb : wr.cell? ⟨w.heap.size, 0, none⟩ = some (.pointer (some ⟨m, 0, none⟩)) := (hbr.out.cell (p := ⟨w.heap.size, 0, none⟩) (cell_lt hc)).trans hc
      have hcd := hcb
      rw [← World.cell?_drew] at hcd
      have hbw := HB.out.trans (hbr.out.mono HB.out.size)
      have hIr := HI.out.below hbr.out
      have CL : Hid (∀ W, Below wr.heap.size wr W → Calls Tryz.prog 33 #[.slice A n c] W fun e w' => ∃ A2 c2, e = .returned (.slice A2 n c2) ∧ Hid (Ints w' A2 n c2 l) ∧ Hid (Newer w.heap.size A2) ∧ Hid (∀ ad, A2 = some ad → ad.block < w'.heap.size) ∧ Below wr.heap.size wr w' ∧ w'.cell? ⟨w.heap.size, 0, none⟩ = some (.pointer (some ⟨m, 0, none⟩))) := fun W hW => (Clone16 (hIr.below hW) (by omega)).mono fun e w' ⟨A2, c2, h1, h2, h3, h3', h4⟩ => by
        have h5 := hW.trans (h4.mono hW.size)
        exact ⟨A2, c2, h1, h2, h3.mono (Nat.le_trans hbw.size hW.size), h3', h5, (h5.cell (p := ⟨w.heap.size, 0, none⟩) (cell_lt hcb)).trans hcb⟩
      have HBW := Lib.hid hbw
      have hdr : Below wr.heap.size wr wr.drew := (Below.refl _ _).drew
      have kq := build_queue16
      have ka := build_alloc16
      clear hbr hbw hIr HI HB HL HR CF
      go_wp2
      go_region_with (first
        | (go_at_call 33; (with_reducible refine (CL.out _ hdr).mono ?_); rintro e w5 ⟨A2, c2, rfl, hI2, hN2, hT2, hb2, hc2⟩))
      all_goals go_wp2
      all_goals go_ret2
      all_goals exact ⟨_, A2, c2, rfl, Alc.new hI2.out hN2.out hT2.out (Nat.le_trans HBW.out.size hb2.size), (HBW.out.trans (hb2.mono HBW.out.size)).alloc (Nat.le_trans HBW.out.size hb2.size) _⟩
end
end Go.Proofs.YtajeelbeochojaaGreatDoor

/-
  Layer 16: New.
-/
namespace Go.Proofs.YtajeelbeochojaaGreatDoor
open Go.RowKit
set_option linter.unusedVariables false
set_option linter.unusedSimpArgs false

/-- the blocks from f on, below q -/
def seq16 (f q : Nat) : List Int := (List.range' f (q - f)).map Int.ofNat
theorem seq16_length (f q : Nat) : (seq16 f q).length = q - f := by simp [seq16]
theorem seq16_start (f : Nat) : seq16 f f = [] := by simp [seq16]
theorem seq16_succ {f k : Nat} (h : f ≤ k) : seq16 f (k + 1) = seq16 f k ++ [(k : Int)] := by
  unfold seq16
  rw [show k + 1 - f = (k - f) + 1 by omega, List.range'_concat, List.map_append]
  simp
  omega
theorem seq16_getD {f q i : Nat} (h : i < q - f) : (seq16 f q).getD i 0 = ((f + i : Nat) : Int) := by
  have hl : i < (seq16 f q).length := by rw [seq16_length]; exact h
  simp only [List.getD_eq_getElem?_getD, List.getElem?_eq_getElem hl, Option.getD_some]
  simp [seq16]
theorem seq16_rises (f q : Nat) : Rises16 (seq16 f q) := fun i hi => by
  rw [seq16_length] at hi
  rw [seq16_getD (by omega), seq16_getD (by omega)]
  omega
theorem seq16_in {f q : Nat} (h : 1 ≤ f) : (seq16 f q).any (outR16 q) = false := by
  rw [List.any_eq_false]
  intro x hx
  obtain ⟨j, hj, rfl⟩ := List.mem_map.1 hx
  rw [List.mem_range'_1] at hj
  simp [outR16]
  omega

/-- of no image -/
theorem New_nil16 (f : Int) (w : World) : Calls Tryz.prog 9 #[.pointer none, .int .i64 f] w fun e w' => e = .returned (.tuple #[.pointer none, .iface 60 (.int .i64 1)]) ∧ w = w' := by
  have BK := Lib.hid (Blocks_nil w)
  by_cases h1 : f < 1
  · go_enter Tryz.func9, Tryz.ntmps9
    go_wp2
    go_ret2
    exact ⟨rfl, rfl⟩
  · have h2 : (0 : Int) < f := by omega
    go_enter Tryz.func9, Tryz.ntmps9
    go_wp2_with (go_at_call 30; (with_reducible refine (BK.out).mono ?_); rintro e w1 ⟨rfl, rfl⟩)
    go_ret2
    exact ⟨rfl, rfl⟩

section
variable {w : World} {B m g q : Nat} {L : List UInt8}
set_option maxRecDepth 100000 in
set_option maxHeartbeats 1600000 in
theorem New_good16 (f : Nat) (hI : Img w B m g L) (hL : L.length = q * 256) (h1 : 1 ≤ f) (h2 : f ≤ q) :
    Calls Tryz.prog 9 #[.pointer (some ⟨m, 0, none⟩), .int .i64 (f : Int)] w fun e w' => ∃ p A2 c2, e = .returned (.tuple #[.pointer (some ⟨p, 0, none⟩), .nilIface]) ∧ Alc w' w.heap.size p m A2 (q - f) c2 (seq16 f q) 0 ∧ Below w.heap.size w w' := by
  have hq : q ≤ 14400 := by have := hI.most; omega
  have BK : Hid (∀ W, Below w.heap.size w W → Calls Tryz.prog 30 #[.pointer (some ⟨m, 0, none⟩)] W fun e w' => e = .returned (.int .i64 (q : Int)) ∧ W = w') := fun W hW => Blocks_img W (hI.later hW) hL
  have FG : Hid (∀ W A c, Below w.heap.size w W → Ints W A (q - f) c (seq16 f q) → Calls Tryz.prog 11 #[.pointer (some ⟨m, 0, none⟩), .slice A (q - f) c] W fun e w' => ∃ p A2 c2, e = .returned (.tuple #[.pointer (some ⟨p, 0, none⟩), .nilIface]) ∧ Hid (Alc w' w.heap.size p m A2 (q - f) c2 (seq16 f q) 0) ∧ Below w.heap.size w w') := fun W A c hW hl => (From_good16 (hI.later hW) hL hl (seq16_in h1) (seq16_rises f q) (by omega)).mono fun e w' ⟨p, A2, c2, h1, h2, h3⟩ => ⟨p, A2, c2, h1, ⟨Nat.le_trans hW.size h2.bp, h2.hp, h2.ints, h2.le, fun ad e => ⟨Nat.le_trans hW.size (h2.low ad e).1, (h2.low ad e).2⟩⟩, hW.trans (h3.mono hW.size)⟩
  clear hI hL
  have hW0 : Below w.heap.size w w := Below.refl _ _
  have hd1 : decide ((f : Int) < 1) = false := decide_eq_false (by omega)
  have hd2 : decide ((q : Int) < (f : Int)) = false := decide_eq_false (by omega)
  have hd3 : decide (q < f) = false := decide_eq_false (by omega)
  go_enter Tryz.func9, Tryz.ntmps9
  go_wp2_with (go_at_call 30; (with_reducible refine (BK.out _ hW0).mono ?_); rintro e w1 ⟨rfl, rfl⟩)
  go_loopw [6, 7] (fun s i wr => ∃ k : Nat, f ≤ k ∧ k ≤ q ∧ i = .int .i64 k ∧ Below w.heap.size w wr ∧ Hid (wr.ownsRow w.heap.size 3 1 s (k - f) (i64s (seq16 f k)))) (fun _ i _ => q - (intOf i).toNat)
  case atStart => exact ⟨f, Nat.le_refl _, h2, rfl, hW0, by rw [seq16_start, Nat.sub_self]; exact World.ownsRow_nil _ _ _ _⟩
  case round =>
    obtain ⟨k, hk1, hk2, rfl, hbr, ho⟩ := hrel
    by_cases hlt : k < q
    · go_wp2_with (first
        | (go_at_call 30; (with_reducible refine (BK.out _ hbr).mono ?_); rintro e w1 ⟨rfl, rfl⟩)
        | (at_builtin; refine wpList_append_new wr rfl _ _ 23 rfl w.heap.size 3 3 (.int .i64 0) 8 Tryz.underlying23 info_i64 rfl u6 (k - f) _ rfl ho hbr.size [.int .i64 (k : Int)] 1 1 rfl rfl (i64s_one [(k : Int)]) (by omega) (by omega) ?_; intro v2 w2 hown2 hs2 hb2))
      go_roundw
      case rel =>
        have hx := hown2.out
        rw [show i64s (seq16 f k) ++ [.int .i64 (k : Int)] = i64s (seq16 f (k + 1)) by rw [seq16_succ hk1, i64s_append]; rfl, show k - f + 1 = k + 1 - f by omega] at hx
        exact ⟨k + 1, by omega, by omega, by go_num, hbr.trans hb2, hx⟩
      case measure => simp only [intOf]; omega
    · obtain rfl : k = q := by omega
      obtain ⟨A1, c1, rfl, hI1⟩ := Ints.of_own ho.out
      have HI1 := Lib.hid hI1
      clear hI1 ho
      go_wp2_with (first
        | (go_at_call 30; (with_reducible refine (BK.out _ hbr).mono ?_); rintro e w1 ⟨rfl, rfl⟩)
        | (go_at_call 11; (with_reducible refine (FG.out _ _ _ hbr HI1.out).mono ?_); rintro e w2 ⟨p, A2, c2, rfl, ha, hb2⟩))
      go_ret2
      exact ⟨p, A2, c2, rfl, ha.out, hb2⟩
end
end Go.Proofs.YtajeelbeochojaaGreatDoor

/-
  Layer 16: the reference's allocator; its From.
-/
namespace Go.Proofs.YtajeelbeochojaaGreatDoor
open Go.RowKit
set_option linter.unusedVariables false
set_option linter.unusedSimpArgs false

/-- the reference's allocator at block p: over the image at block m, the blocks fr left, u handed out -/
def RAlc (w : World) (base p m : Nat) (fr : List Int) (u : Nat) : Prop :=
  base ≤ p ∧ ∃ A c, w.heap[p]? = some (.cells #[.pointer (some ⟨m, 0, none⟩), .slice A fr.length c, .int .i64 (u : Int)] 54 (0, 0)) ∧ Ints w A fr.length c fr ∧ ∀ ad, A = some ad → base ≤ ad.block ∧ ad.block < p
section
variable {w w' : World} {base p m : Nat} {fr : List Int} {u : Nat}
theorem RAlc.plt (h : RAlc w base p m fr u) : p < w.heap.size := by
  obtain ⟨_, A, c, h1, _⟩ := h
  exact block_lt h1
theorem RAlc.later (h : RAlc w base p m fr u) (hb : Below w.heap.size w w') : RAlc w' base p m fr u := by
  have := h.plt
  obtain ⟨h0, A, c, h1, h2, h3⟩ := h
  exact ⟨h0, A, c, (hb.block p this).trans h1, h2.below hb, h3⟩
theorem RAlc.grown {g : Option Nat} (h : RAlc w base p m fr u) (hk : w.grownBy w' g) (hg : ∀ k, g = some k → k < base) : RAlc w' base p m fr u := by
  have hp := h.plt
  obtain ⟨h0, A, c, h1, h2, h3⟩ := h
  refine ⟨h0, A, c, (hk.block p hp (fun e => by have := hg p e.symm; omega)).trans h1, ⟨h2.len, h2.cap, h2.most, fun k v e => ?_⟩, h3⟩
  obtain ⟨ad, ea, hc⟩ := h2.row k v e
  refine ⟨ad, ea, ?_⟩
  have hbk : (ad.add k).block = ad.block := addr_add_block ad k
  have := (h3 ad ea).1
  exact (World.cell?_of_block (w := w) (hk.block _ (cell_lt hc) (fun e => by have := hg _ e.symm; omega))).trans hc
theorem RAlc.mono {base' : Nat} (h : RAlc w base p m fr u) (hb : base' ≤ base) : RAlc w base' p m fr u := by
  obtain ⟨h0, A, c, h1, h2, h3⟩ := h
  exact ⟨Nat.le_trans hb h0, A, c, h1, h2, fun ad e => ⟨Nat.le_trans hb (h3 ad e).1, (h3 ad e).2⟩⟩
theorem RAlc.new {n c : Nat} {A : Option Addr} {l : List Int} (HL : l.length = n) (hI : Ints w A n c l) (hN : Newer base A) (hT : ∀ ad, A = some ad → ad.block < w.heap.size) (hb : base ≤ w.heap.size) :
    RAlc (w.alloc (.cells #[.pointer (some ⟨m, 0, none⟩), .slice A n c, .int .i64 0] 54)) base w.heap.size m l 0 := by
  subst HL
  exact ⟨hb, A, c, heap_alloc_new w _, hI.below ((Below.refl _ _).alloc (Nat.le_refl _) _), fun ad e => ⟨hN ad e, hT ad e⟩⟩
theorem RAlc.cells {A : Option Addr} {n c : Nat} (h1 : w.heap[p]? = some (.cells #[.pointer (some ⟨m, 0, none⟩), .slice A n c, .int .i64 (u : Int)] 54 (0, 0))) :
    w.cell? ⟨p, 0, none⟩ = some (.pointer (some ⟨m, 0, none⟩)) ∧ w.cell? ⟨p, 1, none⟩ = some (.slice A n c) ∧ w.cell? ⟨p, 2, none⟩ = some (.int .i64 (u : Int)) ∧ w.frozen? ⟨p, 1, none⟩ = false ∧ w.frozen? ⟨p, 2, none⟩ = false := by
  refine ⟨?_, ?_, ?_, frozen_of_row w p 1 _ _ h1, frozen_of_row w p 2 _ _ h1⟩
  · rw [cell_of_row w p 0 _ _ _ h1]; rfl
  · rw [cell_of_row w p 1 _ _ _ h1]; rfl
  · rw [cell_of_row w p 2 _ _ _ h1]; rfl
end

/-- a result's variable, all below as it was -/
structure Rx16 (w W : World) : Prop where
  flt : FltAt W w.heap.size (.slice none 0 0) (.int .i64 0)
  bel : Below w.heap.size w W
theorem Rx16.start (w : World) : Rx16 w (w.alloc (.cells #[.slice none 0 0, .int .i64 0] 37)) := ⟨FltAt.new w _ _, (Below.refl _ _).alloc (Nat.le_refl _) _⟩
theorem Rx16.later {w W W' : World} (h : Rx16 w W) (hb : Below W.heap.size W W') : Rx16 w W' := ⟨h.flt.later hb, h.bel.trans (hb.mono h.bel.size)⟩
theorem Rx16.drewN {w W : World} (h : Rx16 w W) (n : Nat) : Rx16 w (W.drewN n) := h.later (below_drewN (Below.refl _ _) n)

section
variable {w : World} {B m q : Nat} {v : Value} {M : List (List UInt8)} {A : Option Addr} {n c : Nat} {l : List Int}

end
end Go.Proofs.YtajeelbeochojaaGreatDoor

/-
  Layer 16: the reference's New, Take, Ahead.
-/
namespace Go.Proofs.YtajeelbeochojaaGreatDoor
open Go.RowKit
set_option linter.unusedVariables false
set_option linter.unusedSimpArgs false

section
variable {w : World} {B m q : Nat} {v : Value} {M : List (List UInt8)}
end

section
variable {w : World} {base p m : Nat} {fr : List Int} {u : Nat}
end
end Go.Proofs.YtajeelbeochojaaGreatDoor

/-
  Layer 16: the reference's Lay; layer 11's Write of the reference once more, with what it leaves told block by block.
-/
namespace Go.Proofs.YtajeelbeochojaaGreatDoor
open Go.RowKit
set_option linter.unusedVariables false
set_option linter.unusedSimpArgs false

/-- the reference's allocator and its image -/
structure RAImg (w : World) (base p m B : Nat) (v : Value) (fr : List Int) (u : Nat) (M : List (List UInt8)) : Prop where
  ra : RAlc w base p m fr u
  ri : RImg w B m v M
  mlt : m < base
  own : ∀ k, v.ownBlock = some k → m < k ∧ k < base
section
variable {w w' : World} {base p m B : Nat} {v : Value} {fr : List Int} {u : Nat} {M : List (List UInt8)}
theorem RAImg.later (h : RAImg w base p m B v fr u M) (hb : Below w.heap.size w w') : RAImg w' base p m B v fr u M := ⟨h.ra.later hb, h.ri.later hb, h.mlt, h.own⟩
/-- a block is left: the write has been tried, its error lies in a variable -/
structure Ly16 (w W : World) (z b base p m B : Nat) (v : Value) (fr : List Int) (u : Nat) (M : List (List UInt8)) (A : Option Addr) (n c : Nat) (no x : Int) : Prop where
  gr : w.grownBy W v.ownBlock
  res : FltAt W z (.slice none 0 0) (.int .i64 0)
  flt : FltAt W b (.slice A n c) (.int .i64 x)
  ints : Ints W A n c (atL no x)
  new : Newer (z + 1) A
  rai : RAImg W base p m B v fr u M

section
variable {w W w2 : World} {base p m B : Nat} {v : Value} {fr : List Int} {u : Nat} {M : List (List UInt8)} {A : Option Addr} {n c : Nat} {no x : Int}
theorem Ly16.drew {z b : Nat} (h : Ly16 w W z b base p m B v fr u M A n c no x) : Ly16 w W.drew z b base p m B v fr u M A n c no x := by
  have hb : Below W.heap.size W W.drew := (Below.refl _ _).drew
  exact ⟨grown_trans h.gr (grown_below hb _), h.res.later hb, h.flt.later hb, h.ints.below hb, h.new, h.rai.later hb⟩
end

end
end Go.Proofs.YtajeelbeochojaaGreatDoor

/-
  Layer 16: one step of either side, told by one answer.
-/
namespace Go.Proofs.YtajeelbeochojaaGreatDoor
open Go.RowKit
set_option linter.unusedVariables false
set_option linter.unusedSimpArgs false

section
variable {q : Nat} {l : List Int} {nx : Bool} {kind : Int} {li : List UInt8} {t : Nat} {L : List UInt8}
end

/-- an error, as the program has it: the blocks that it tells of, its code -/
def ErrD16 (w : World) (v : Value) (bl : List Int) (x : Int) : Prop :=
  (x = 0 ∧ bl = [] ∧ v = .nilIface) ∨ ∃ nd l, v = val (nd :: l) ∧ Good w (nd :: l) ∧ codeOf (nd :: l) = x ∧ blocksOf (nd :: l) = bl ∧ (nd :: l).length ≤ 1000000
theorem ErrD16.below {w w' : World} {v : Value} {bl : List Int} {x : Int} (h : ErrD16 w v bl x) (hb : Below w.heap.size w w') : ErrD16 w' v bl x := by
  rcases h with h | ⟨nd, l, h1, h2, h3⟩
  · exact .inl h
  · exact .inr ⟨nd, l, h1, h2.below hb, h3⟩
theorem ErrD16.nil (w : World) : ErrD16 w .nilIface [] 0 := .inl ⟨rfl, rfl, rfl⟩
theorem ErrD16.num (w : World) (x : Int) : ErrD16 w (.iface 60 (.int .i64 x)) [] x := .inr ⟨.num x, [], rfl, rfl, rfl, rfl, by simp⟩
theorem ErrD16.at_ {w : World} {v : Value} {no x : Int} (h : ErrAt w v no x) (hx : x ≠ 0) : ErrD16 w v [no] x := by
  rcases h with ⟨h, _⟩ | ⟨_, p, h1, h2⟩
  · exact absurd h hx
  · exact .inr ⟨.flt no p, [.num x], h1, h2, rfl, rfl, by simp⟩
section
variable {w : World} {base p m B g : Nat} {A : Option Addr} {n c : Nat} {l : List Int} {t q : Nat} {L : List UInt8}
end

section
variable {w : World} {base p m B : Nat} {v : Value} {l : List Int} {t q : Nat} {L : List UInt8}
end
end Go.Proofs.YtajeelbeochojaaGreatDoor

/-
  Layer 16: the document's example.
-/
namespace Go.Proofs.YtajeelbeochojaaGreatDoor
open Go.RowKit
set_option linter.unusedVariables false
set_option linter.unusedSimpArgs false

/-- the example's text -/
def live16T : List UInt8 := [101, 114, 114, 111, 114, 32, 49, 52]
theorem text_live16 : textOf [.num 14] = live16T := by
  have d : ∀ u, u < 10 → Lib.decDigits u = [UInt8.ofNat (48 + u)] := fun u h => by rw [Lib.decDigits, dif_pos h]
  have h14 : Lib.itoa 14 = [49, 52] := by
    show Lib.decDigits 14 = _
    rw [Lib.decDigits, dif_neg (by decide), d 1 (by decide)]
    rfl
  simp only [textOf, h14]
  rfl
abbrev live16Z : List UInt8 := List.replicate 768 0
theorem live16_seq : seq16 1 3 = [1, 2] := by decide

/-- all below as it was; the example's allocator -/
structure Lv16 (w W : World) (base p m g : Nat) (A : Option Addr) (c : Nat) (t : Nat) : Prop where
  bel : Below w.heap.size w W
  ai : AImg W base p m w.heap.size g A 2 c [1, 2] t live16Z
  low : w.heap.size ≤ base
theorem Lv16.later {w W W' : World} {base p m g : Nat} {A : Option Addr} {c t : Nat} (h : Lv16 w W base p m g A c t) (hb : Below W.heap.size W W') : Lv16 w W' base p m g A c t := ⟨h.bel.trans (hb.mono h.bel.size), h.ai.later hb, h.low⟩

section
variable {w : World}
theorem lv16_of (W : World) (g0 : Nat) (hO : Own8 W w.heap.size g0 live16Z) (hb : Below w.heap.size w W) : Calls Tryz.prog 7 #[.slice (some ⟨g0, 0, none⟩) 768 768] W fun e w' => ∃ m g, e = .returned (.pointer (some ⟨m, 0, none⟩)) ∧ Img w' w.heap.size m g live16Z ∧ Below w.heap.size w w' := by
  refine (Of_any _ 768 768 live16Z W (hO.bytes (n := 768) List.length_replicate (by omega))).mono ?_
  rintro e w' ⟨p, g, h1, h2, h3⟩
  refine ⟨p, g, h1, ?_, hb.trans (h3.mono hb.size)⟩
  rw [show whole 768 * 256 = 768 by decide, List.take_of_length_le (by simp)] at h2
  exact h2.down hb.size
theorem lv16_new (W : World) (m g : Nat) (hI : Img W w.heap.size m g live16Z) (hb : Below w.heap.size w W) : Calls Tryz.prog 9 #[.pointer (some ⟨m, 0, none⟩), .int .i64 1] W fun e w' => ∃ p A c, e = .returned (.tuple #[.pointer (some ⟨p, 0, none⟩), .nilIface]) ∧ Lv16 w w' W.heap.size p m g A c 0 := by
  refine (New_good16 (q := 3) 1 hI (by decide +kernel) (by omega) (by omega)).mono ?_
  rintro e w' ⟨p, A, c, h1, h2, h3⟩
  rw [live16_seq] at h2
  exact ⟨p, A, c, h1, ⟨hb.trans (h3.mono hb.size), ⟨h2, hI.later h3, hI.plt, hI.glt⟩, hb.size⟩⟩
theorem lv16_next (W : World) (base p m g : Nat) (A : Option Addr) (c t : Nat) (h : Lv16 w W base p m g A c t) (ht : t < 2) : Calls Tryz.prog 15 #[.pointer (some ⟨p, 0, none⟩)] W fun e w' => e = .returned (.tuple #[.int .i64 (([1, 2] : List Int).getD t 0), .nilIface]) ∧ Lv16 w w' base p m g A c (t + 1) :=
  (h.ai.next ht).mono fun e w' ⟨h1, h2, h3⟩ => ⟨h1, ⟨h.bel.trans (below_grown h3 (Nat.le_trans h.low h.ai.alc.bp) h.bel.size), h2, h.low⟩⟩
theorem lv16_none (W : World) (base p m g : Nat) (A : Option Addr) (c : Nat) (h : Lv16 w W base p m g A c 2) : Calls Tryz.prog 15 #[.pointer (some ⟨p, 0, none⟩)] W fun e w' => e = .returned (.tuple #[.int .i64 0, .iface 60 (.int .i64 14)]) ∧ Below w.heap.size w w' :=
  (Next_none16 h.ai.alc rfl).mono fun e w' ⟨h1, h2⟩ => ⟨h1, (h.later h2).bel⟩
theorem lv16_text (W : World) (hp : Pow w) (hb : Below w.heap.size w W) : Calls Tryz.prog 28 #[.iface 60 (.int .i64 14)] W fun e w' => e = .returned (str live16T) ∧ Below w.heap.size w w' := by
  refine (Text_err (x0 := .num 14) (l0 := []) (w := W) rfl ⟨⟨by omega, by omega⟩, trivial⟩ (hp.later hb) (by simp)).mono ?_
  rintro e w' ⟨rfl, h1⟩
  exact ⟨by rw [text_live16], hb.trans (h1.mono hb.size)⟩
end

set_option maxRecDepth 100000 in
set_option maxHeartbeats 1600000 in
theorem lives16_any (w : World) (hp : Pow w) : Calls Tryz.prog 6 #[] w fun e w' => e = .returned (.bool true) ∧ Below w.heap.size w w' := by
  obtain ⟨i0, hi0, hz0, hz1, hz2⟩ := info_parts info_u8
  have OF := Lib.hid (fun W g0 h hb => lv16_of (w := w) W g0 h hb)
  have NW := Lib.hid (fun W m g h hb => lv16_new (w := w) W m g h hb)
  have N0 : Hid (∀ W base p m g A c, Lv16 w W base p m g A c 0 → Calls Tryz.prog 15 #[.pointer (some ⟨p, 0, none⟩)] W fun e w' => e = .returned (.tuple #[.int .i64 1, .nilIface]) ∧ Lv16 w w' base p m g A c 1) := fun W base p m g A c h => lv16_next W base p m g A c 0 h (by omega)
  have N1 : Hid (∀ W base p m g A c, Lv16 w W base p m g A c 1 → Calls Tryz.prog 15 #[.pointer (some ⟨p, 0, none⟩)] W fun e w' => e = .returned (.tuple #[.int .i64 2, .nilIface]) ∧ Lv16 w w' base p m g A c 2) := fun W base p m g A c h => lv16_next W base p m g A c 1 h (by omega)
  have N2 := Lib.hid (fun W base p m g A c h => lv16_none (w := w) W base p m g A c h)
  have TX := Lib.hid (fun W hb => lv16_text (w := w) W hp hb)
  have eT := run_text_same live16T ⟨#[101, 114, 114, 111, 114, 32, 49, 52]⟩ rfl
  have gs := guard_str
  clear hp
  go_enter Tryz.func6, Tryz.ntmps6
  go_wp2_with (first
    | (at_make; refine wpList_make_full w rfl (.const (.int .i64 768)) (.const (.int .i64 768)) _ rfl w.heap.size 5 i0 _ 1 Tryz.underlying22 hi0 hz0 hz1 .i64 .i64 _ _ 768 rfl rfl rfl rfl (by rw [hz2]; omega) (by simp only [maxLen]; omega) (Nat.le_refl _) ?_; intro w1 hown1 hg1; have hb1 := below_of_grown hg1 (by simp); have HO1 := Lib.hid (own_zeros hown1 (Nat.le_refl _)); clear hown1 hg1)
    | (go_at_call 7; (with_reducible refine (OF.out _ _ HO1.out hb1).mono ?_); rintro e w2 ⟨m, g, rfl, hI2, hb2⟩)
    | (go_at_call 9; (with_reducible refine (NW.out _ _ _ hI2 hb2).mono ?_); rintro e w3 ⟨p, A, c, rfl, hN3⟩)
    | (go_at_call 15; first
        | ((with_reducible refine (N2.out _ _ _ _ _ _ _ hN5).mono ?_); rintro e w6 ⟨rfl, hb6⟩)
        | ((with_reducible refine (N1.out _ _ _ _ _ _ _ hN4).mono ?_); rintro e w5 ⟨rfl, hN5⟩)
        | ((with_reducible refine (N0.out _ _ _ _ _ _ _ hN3).mono ?_); rintro e w4 ⟨rfl, hN4⟩))
    | (go_at_call 28; (with_reducible refine (TX.out _ hb6).mono ?_); rintro e w7 ⟨rfl, hb7⟩))
  go_ret
  exact ⟨rfl, hb7⟩

end Go.Proofs.YtajeelbeochojaaGreatDoor

/-
  The walk of AllocOnce.
-/
namespace Go.Proofs.YtajeelbeochojaaGreatDoor
open Go.RowKit
set_option linter.unusedVariables false
set_option linter.unusedSimpArgs false

theorem once_kind (x : Int) : ∃ k : Nat, (wrap64 (x.tmod 4 + 4)).tmod 4 = (k : Int) ∧ k ≤ 3 := by
  have h1 := Int.tmod_lt_of_pos x (show (0 : Int) < 4 by omega)
  have h2 := Int.lt_tmod_of_pos x (show (0 : Int) < 4 by omega)
  generalize x.tmod 4 = y at *
  have hw : wrap64 (y + 4) = y + 4 := by unfold wrap64; omega
  rw [hw]
  have h3 := Int.tmod_lt_of_pos (y + 4) (show (0 : Int) < 4 by omega)
  have h4 := Int.tmod_nonneg 4 (show 0 ≤ y + 4 by omega)
  generalize (y + 4).tmod 4 = z at *
  exact ⟨z.toNat, by omega, by omega⟩
theorem once_from (x : Int) (q : Nat) (h : 1 ≤ q) (h2 : q ≤ 23) : ∃ k : Nat, (wrap64 (x.tmod (q : Int) + (q : Int))).tmod (q : Int) = (k : Int) ∧ k + 1 ≤ q := by
  have h1 := Int.tmod_lt_of_pos x (show (0 : Int) < (q : Int) by omega)
  have h2 := Int.lt_tmod_of_pos x (show (0 : Int) < (q : Int) by omega)
  generalize x.tmod (q : Int) = y at *
  have hw : wrap64 (y + q) = y + q := by unfold wrap64; omega
  rw [hw]
  have h3 := Int.tmod_lt_of_pos (y + q) (show (0 : Int) < (q : Int) by omega)
  have h4 := Int.tmod_nonneg (q : Int) (show 0 ≤ y + q by omega)
  generalize (y + q).tmod (q : Int) = z at *
  exact ⟨z.toNat, by omega, by omega⟩
theorem once_write {q z k : Nat} {li : List UInt8} (hz : z < q) (hq : q ≤ 23) (hk : k ≤ 3) (hl : li.length ≤ 1) : wrE11 q (z : Int) (1 + (k : Int)) li = 0 := by
  have h1 : sealE (1 + (k : Int)) (z : Int) li.length = 0 := by
    have : knownB (1 + (k : Int)) (z : Int) = true := knownB_iff.2 ⟨⟨by omega, by omega⟩, by omega, by omega⟩
    rw [sealE, this, if_neg (by decide), if_neg (by omega)]
  rw [wrE11_ok h1, outB_not.2 ⟨by omega, by omega⟩]
  rfl
theorem take_splice {α : Type} (L cs : List α) {i k : Nat} (h : k ≤ i) (hi : i ≤ L.length) : (splice L i cs).take k = L.take k := by
  unfold splice
  rw [List.take_append_of_le_length (by rw [List.length_take]; omega), List.take_take, Nat.min_eq_left h]

/-- the blocks from f on, t of them written; what lies below is as it was -/
structure Onc16 (w W : World) (l : List UInt8) (q f base p m g : Nat) (A : Option Addr) (c t : Nat) (L : List UInt8) : Prop where
  bel : Below w.heap.size w W
  ai : AImg W base p m w.heap.size g A (q - f) c (seq16 f q) t L
  low : w.heap.size ≤ base
  len : L.length = q * 256
  same : L.take (256 * f) = l.take (256 * f)
section
variable {w W W' : World} {l : List UInt8} {q f base p m g : Nat} {A : Option Addr} {c t : Nat} {L : List UInt8}
theorem Onc16.later (h : Onc16 w W l q f base p m g A c t L) (hb : Below W.heap.size W W') : Onc16 w W' l q f base p m g A c t L := ⟨h.bel.trans (hb.mono h.bel.size), h.ai.later hb, h.low, h.len, h.same⟩
theorem Onc16.lay {Ai : Option Addr} {k z : Nat} {b : UInt8} (h : Onc16 w W l q f base p m g A c t L) (hB : Bytes8 W Ai 1 1 [b]) (hz : z = f + t) (hzq : z < q) (hq : q ≤ 23) (hk : k ≤ 3) :
    Calls Tryz.prog 17 #[.pointer (some ⟨p, 0, none⟩), .int .i64 (1 + (k : Int)), .slice Ai 1 1] W fun e w' => e = .returned (.tuple #[.int .i64 (z : Int), .nilIface]) ∧ ∃ L', Onc16 w w' l q f base p m g A c (t + 1) L' := by
  subst hz
  have e : (seq16 f q).getD t 0 = ((f + t : Nat) : Int) := seq16_getD (by omega)
  have hx : wrE11 q ((seq16 f q).getD t 0) (1 + (k : Int)) [b] = 0 := by rw [e]; exact once_write hzq hq hk (by simp)
  refine (Lay_good16 (1 + (k : Int)) h.ai h.len (by omega) hB hx).mono ?_
  rintro e' w' ⟨h1, h2, W1, h3, h4⟩
  rw [e] at h1
  refine ⟨h1, _, ⟨h.bel.trans ?_, h2, h.low, wrL11_length h.len, ?_⟩⟩
  · have e1 := below_grown h3 h.ai.img.bg h.bel.size
    have e2 := below_grown h4 (Nat.le_trans h.low h.ai.alc.bp) (Nat.le_trans h.bel.size h3.size)
    exact e1.trans e2
  · rw [wrL11_good hx, take_splice _ _ (by rw [e, Int.toNat_natCast]; omega) (by rw [e, Int.toNat_natCast, h.len]; omega)]
    exact h.same
end

/-- the first k bytes -/
theorem cut8_to16 {w : World} {A : Option Addr} {n c : Nat} {l : List UInt8} (h : Bytes8 w A n c l) {k : Nat} (hk : k ≤ n) :
    (∀ V, (Instr.slice 22 (.slice A n c) none (some (.int .i64 (k : Int))) none).run Tryz.prog V = .ok (.slice A k c) V) ∧ Bytes8 w A k c (l.take k) := by
  have hlen := h.len
  have hcap := h.cap
  have hmost := h.most
  refine ⟨fun V => ?_, ⟨by simp [hlen]; omega, by omega, hmost, ?_⟩⟩
  · have he : Tryz.prog.elem 22 = 5 := by kernel_rfl
    have hs : (sizeOf 5).run Tryz.prog V = .ok 1 V := by
      obtain ⟨i0, hi0, _, hz1, _⟩ := info_parts info_u8
      simp [sizeOf, typeInfo, hi0, hz1]
    rw [run_slice_h (P := Tryz.prog) (w := V) (t := 22) (a := A) (len := n) (cap := c) (ht := by rw [he]; exact Tryz.underlying22) (kh := .i64) (h := (k : Int)) (h0 := by omega) (h2 := by omega), he, hs]
    have e : (if c = 0 then A else A.map (·.add 0)) = A := by
      split
      · rfl
      · cases A with
        | none => rfl
        | some a => simp [Addr.add]
    simp only [Result.andThen, sliced, Int.toNat_natCast, Nat.mul_one, Nat.sub_zero, Nat.zero_mul, e]
  · have := h.row.take k
    rwa [u8s_take] at this
/-- and the image's bytes -/
structure OncE (w W : World) (l : List UInt8) (q f base p m g : Nat) (A : Option Addr) (c t : Nat) (L : List UInt8) (Ac : Option Addr) (k : Nat) : Prop where
  on : Onc16 w W l q f base p m g A c t L
  by_ : Bytes8 W Ac k k L
theorem OncE.later {w W W' : World} {l : List UInt8} {q f base p m g : Nat} {A : Option Addr} {c t : Nat} {L : List UInt8} {Ac : Option Addr} {k : Nat} (h : OncE w W l q f base p m g A c t L Ac k) (hb : Below W.heap.size W W') : OncE w W' l q f base p m g A c t L Ac k := ⟨h.on.later hb, h.by_.below hb⟩

set_option maxRecDepth 100000 in
set_option maxHeartbeats 3200000 in
theorem once_good (A : Option Addr) (n c : Nat) (l : List UInt8) (from_ kind : Int) (w : World) (h : Bytes8 w A n c l) (hg : ErrT w) (hp : Pow w) (hn : n ≤ 6000) (hn2 : 256 ≤ n) :
    Calls Tryz.prog 4 #[.slice A n c, .int .i64 from_, .int .i64 kind] w fun e w' => e = .returned (.bool true) ∧ Below w.heap.size w w' := by
  obtain ⟨q, hq, hqn⟩ : ∃ q : Nat, ((n : Int).tdiv 256) = (q : Int) ∧ q = n / 256 := ⟨n / 256, by rw [Int.tdiv_eq_ediv_of_nonneg (by omega)]; omega, rfl⟩
  have hq1 : 1 ≤ q := by omega
  have hq2 : q ≤ 23 := by omega
  have hlen := h.len
  obtain ⟨f0, hf0, hfq⟩ := once_from from_ q hq1 hq2
  obtain ⟨k0, hk0, hk3⟩ := once_kind kind
  have hL : (l.take (q * 256)).length = q * 256 := by rw [List.length_take]; omega
  have FO : Hid (Calls Tryz.prog 7 #[.slice A n c] w fun e w' => ∃ p g, e = .returned (.pointer (some ⟨p, 0, none⟩)) ∧ Img w' w.heap.size p g (l.take (q * 256)) ∧ Below w.heap.size w w') := by
    have := Of_any _ n c l w h
    rwa [whole_small hn, ← hqn] at this
  have NW : Hid (∀ W m g, Img W w.heap.size m g (l.take (q * 256)) → Below w.heap.size w W → Calls Tryz.prog 9 #[.pointer (some ⟨m, 0, none⟩), .int .i64 (1 + (f0 : Int))] W fun e w' => ∃ p A2 c2, e = .returned (.tuple #[.pointer (some ⟨p, 0, none⟩), .nilIface]) ∧ Hid (Onc16 w w' l q (1 + f0) W.heap.size p m g A2 c2 0 (l.take (q * 256)))) := fun W m g hI hb => by
    have := New_good16 (q := q) (1 + f0) hI hL (by omega) (by omega)
    rw [show ((1 + f0 : Nat) : Int) = 1 + (f0 : Int) by omega] at this
    refine this.mono ?_
    rintro e w' ⟨p, A2, c2, h1, h2, h3⟩
    exact ⟨p, A2, c2, h1, ⟨hb.trans (h3.mono hb.size), ⟨h2, hI.later h3, hI.plt, hI.glt⟩, hb.size, hL, by rw [List.take_take, Nat.min_eq_left (by omega)]⟩⟩
  have hd : decide ((6000 : Int) < (n : Int)) = false := decide_eq_false (by omega)
  have hqz : ¬ ((q : Int) = 0) := by omega
  have hqz2 : ((q : Int) == 0) = false := by simp; omega
  have HQN : Hid (q * 256 ≤ n) := by show _ ≤ _; omega
  have HB := Lib.hid h
  have HG := Lib.hid hg
  have HP := Lib.hid hp
  have HL := Lib.hid hL
  clear h hg hp hL hqn hlen
  go_enter Tryz.func4, Tryz.ntmps4
  go_wp2_with (first
    | (go_at_call 7; (with_reducible refine (FO.out).mono ?_); rintro e w1 ⟨m, g, rfl, hI1, hb1⟩)
    | (go_at_call 9; (with_reducible refine (NW.out _ _ _ hI1 hb1).mono ?_); rintro e w2 ⟨p, A2, c2, rfl, hO2⟩))
  go_loopw [11] (fun i wr => ∃ (z t : Nat) (L : List UInt8), z = 1 + f0 + t ∧ z ≤ q ∧ i = .int .i64 (z : Int) ∧ Hid (Onc16 w wr l q (1 + f0) w1.heap.size p m g A2 c2 t L)) (fun i _ => q - (intOf i).toNat)
  case atStart => exact ⟨1 + f0, 0, _, rfl, by omega, by go_num, hO2⟩
  case round =>
    clear hO2
    obtain ⟨z, t, L, hz, hzq, rfl, hO⟩ := hrel
    by_cases hlt : z < q
    · have LY : Hid (Calls Tryz.prog 17 #[.pointer (some ⟨p, 0, none⟩), .int .i64 (1 + (k0 : Int)), .slice (some ⟨wr.heap.size, 0, none⟩) 1 1] (wr.alloc (.cells #[.int .u8 (z : Int)] 5)) fun e w' => e = .returned (.tuple #[.int .i64 (z : Int), .nilIface]) ∧ ∃ L', Hid (Onc16 w w' l q (1 + f0) w1.heap.size p m g A2 c2 (t + 1) L')) :=
        (hO.out.later ((Below.refl _ _).alloc (Nat.le_refl _) _)).lay (b := UInt8.ofNat z) ⟨rfl, Nat.le_refl _, by omega, Row.of_block (xs := u8s [UInt8.ofNat z]) (by rw [show u8s [UInt8.ofNat z] = [.int .u8 (z : Int)] by simp [u8s]; omega]; exact heap_alloc_new wr _)⟩ hz hlt hq2 hk3
      have HZ := Lib.hid hz
      clear hz
      go_wp2_with (go_at_call 17; (with_reducible refine (LY.out).mono ?_); rintro e w3 ⟨rfl, L', hO3⟩)
      go_roundw
      case rel => exact ⟨z + 1, t + 1, L', by have := HZ.out; omega, by omega, by go_num, hO3⟩
      case measure => simp only [intOf]; omega
    · obtain rfl : z = q := by omega
      have hzt : z - (1 + f0) = t := by omega
      have LN : Hid (Calls Tryz.prog 17 #[.pointer (some ⟨p, 0, none⟩), .int .i64 (1 + (k0 : Int)), .slice none 0 0] wr fun e w' => e = .returned (.tuple #[.int .i64 0, .iface 60 (.int .i64 14)]) ∧ Hid (Onc16 w w' l z (1 + f0) w1.heap.size p m g A2 c2 t L)) := (Lay_none16 (1 + (k0 : Int)) none 0 0 hO.out.ai.alc hzt).mono fun e w' ⟨h1, h2⟩ => ⟨h1, hO.out.later h2⟩
      obtain ⟨k, hk⟩ : ∃ k, z * 256 = k := ⟨_, rfl⟩
      obtain ⟨mm, hmm⟩ : ∃ mm, 256 * (1 + f0) = mm := ⟨_, rfl⟩
      have hkI : 256 * (z : Int) = (k : Int) := by omega
      have hmI : 256 * (1 + (f0 : Int)) = (mm : Int) := by omega
      have hmk : mm ≤ k := by omega
      have hmn : mm ≤ n := by have := HQN.out; omega
      have BY : Hid (∀ W, Onc16 w W l z (1 + f0) w1.heap.size p m g A2 c2 t L → Calls Tryz.prog 25 #[.pointer (some ⟨m, 0, none⟩)] W fun e w' => ∃ Ac, e = .returned (.slice Ac k k) ∧ Hid (OncE w w' l z (1 + f0) w1.heap.size p m g A2 c2 t L Ac k)) := fun W hW => by
        have := Bytes_img W hW.ai.img
        rw [hW.len, hk] at this
        exact this.mono fun e w' ⟨Ac, h1, h2, h3⟩ => ⟨Ac, h1, hW.later h3, h2⟩
      have hsame : L.take mm = l.take mm := by rw [← hmm]; exact hO.out.same
      have HSM := Lib.hid hsame
      clear hz hk hmm hsame hO
      go_wp2_with (first
        | (go_at_call 17; (with_reducible refine (LN.out).mono ?_); rintro e w3 ⟨rfl, hO3⟩)
        | (go_at_call 25; (with_reducible refine (BY.out _ hO3.out).mono ?_); rintro e w4 ⟨Ac, rfl, hE⟩))
      have CO : Hid (∀ W, OncE w W l z (1 + f0) w1.heap.size p m g A2 c2 t L Ac k ∧ Below w4.heap.size w4 W → Calls Tryz.prog 27 #[.iface 60 (.int .i64 14)] W fun e w' => e = .returned (.int .i64 14) ∧ (OncE w w' l z (1 + f0) w1.heap.size p m g A2 c2 t L Ac k ∧ Below w4.heap.size w4 w')) := fun W hW => (Code_err (x := .num 14) (l := []) (w := W) rfl (HG.out.later hW.1.on.bel)).mono fun e w' ⟨h1, h2⟩ => ⟨h1, hW.1.later h2, hW.2.trans (h2.mono hW.2.size)⟩
      have LF : Hid (∀ W, OncE w W l z (1 + f0) w1.heap.size p m g A2 c2 t L Ac k ∧ Below w4.heap.size w4 W → Calls Tryz.prog 19 #[.pointer (some ⟨p, 0, none⟩)] W fun e w' => e = .returned (.int .i64 0) ∧ (OncE w w' l z (1 + f0) w1.heap.size p m g A2 c2 t L Ac k ∧ Below w4.heap.size w4 w')) := fun W hW => by
        have := Left_yes16 hW.1.on.ai.alc
        rw [hzt, Nat.sub_self] at this
        exact this.mono fun e w' ⟨h1, h2⟩ => ⟨h1, hW.1.later h2, hW.2.trans (h2.mono hW.2.size)⟩
      have US : Hid (∀ W, OncE w W l z (1 + f0) w1.heap.size p m g A2 c2 t L Ac k ∧ Below w4.heap.size w4 W → Calls Tryz.prog 20 #[.pointer (some ⟨p, 0, none⟩)] W fun e w' => e = .returned (.int .i64 (t : Int)) ∧ (OncE w w' l z (1 + f0) w1.heap.size p m g A2 c2 t L Ac k ∧ Below w4.heap.size w4 w')) := fun W hW => (Used_yes16 hW.1.on.ai.alc).mono fun e w' ⟨h1, h2⟩ => ⟨h1, h2 ▸ hW⟩
      have LV : Hid (∀ W, OncE w W l z (1 + f0) w1.heap.size p m g A2 c2 t L Ac k ∧ Below w4.heap.size w4 W → Calls Tryz.prog 6 #[] W fun e w' => e = .returned (.bool true) ∧ (OncE w w' l z (1 + f0) w1.heap.size p m g A2 c2 t L Ac k ∧ Below w4.heap.size w4 w')) := fun W hW => (lives16_any W (HP.out.later hW.1.on.bel)).mono fun e w' ⟨h1, h2⟩ => ⟨h1, hW.1.later h2, hW.2.trans (h2.mono hW.2.size)⟩
      obtain ⟨s1, hB1⟩ := cut8_to16 hE.out.by_ hmk
      obtain ⟨s2, hB2⟩ := cut8_to16 HB.out hmn
      rw [HSM.out] at hB1
      generalize l.take mm = lm at *
      have CV : Hid (∀ W, OncE w W l z (1 + f0) w1.heap.size p m g A2 c2 t L Ac k → Below w4.heap.size w4 W → (convert 22 9 (.slice Ac mm k)).run Tryz.prog W = .ok (.string ⟨lm.toArray⟩) W ∧ (convert 22 9 (.slice A mm c)).run Tryz.prog W = .ok (.string ⟨lm.toArray⟩) W) := fun W hW hb => ⟨run_str (hB1.below hb), run_str (hB2.below hW.on.bel)⟩
      have htI : wrap64 ((z : Int) - (1 + (f0 : Int))) = (t : Int) := by unfold wrap64; omega
      have htI3 : IntKind.i64.wrap ((z : Int) - (1 + (f0 : Int))) = (t : Int) := by rw [IntKind.wrap_i64]; omega
      have htI4 : IntKind.i64.wrap (t : Int) = (t : Int) := by rw [IntKind.wrap_i64]; omega
      have hkw : IntKind.i64.wrap (256 * (z : Int)) = (k : Int) := by rw [IntKind.wrap_i64]; omega
      have hkw2 : IntKind.i64.wrap (k : Int) = (k : Int) := by rw [IntKind.wrap_i64]; omega
      have hmw : IntKind.i64.wrap (256 * (1 + (f0 : Int))) = (mm : Int) := by rw [IntKind.wrap_i64]; omega
      have hmw2 : IntKind.i64.wrap (mm : Int) = (mm : Int) := by rw [IntKind.wrap_i64]; omega
      have htI2 : (z : Int) - (1 + (f0 : Int)) = (t : Int) := by omega
      have hPd : OncE w w4.drew l z (1 + f0) w1.heap.size p m g A2 c2 t L Ac k ∧ Below w4.heap.size w4 w4.drew := ⟨hE.out.later (Below.refl _ _).drew, (Below.refl _ _).drew⟩
      have fd := CV.out _ hPd.1 hPd.2
      have f4 := CV.out _ hE.out (Below.refl _ _)
      clear hB1 hB2 LN BY hO3
      go_region_held3 (fun W => (convert 22 9 (.slice Ac mm k)).run Tryz.prog W = .ok (.string ⟨lm.toArray⟩) W ∧ (convert 22 9 (.slice A mm c)).run Tryz.prog W = .ok (.string ⟨lm.toArray⟩) W)
        (first | assumption | go_keep)
        (first
        | (go_at_call 27; (with_reducible refine (CO.out _ (by assumption)).mono ?_); rintro e w5 ⟨rfl, hP5⟩; have f5 := CV.out _ hP5.1 hP5.2)
        | (go_at_call 19; (with_reducible refine (LF.out _ (by assumption)).mono ?_); rintro e w6 ⟨rfl, hP6⟩; have f6 := CV.out _ hP6.1 hP6.2)
        | (go_at_call 20; (with_reducible refine (US.out _ (by assumption)).mono ?_); rintro e w7 ⟨rfl, hP7⟩; have f7 := CV.out _ hP7.1 hP7.2)
        | (go_at_call 6; (with_reducible refine (LV.out _ (by assumption)).mono ?_); rintro e w8 ⟨rfl, hP8⟩; have f8 := CV.out _ hP8.1 hP8.2))
      all_goals go_wp2
      all_goals go_ret
      all_goals exact ⟨rfl, hP8.1.on.bel⟩

set_option maxRecDepth 100000 in
set_option maxHeartbeats 1600000 in
theorem once_else (A : Option Addr) (n c : Nat) (from_ kind : Int) (w : World) (hp : Pow w) (hm : n ≤ 9223372036854775807) (hn : 6000 < n ∨ n ≤ 255) :
    Calls Tryz.prog 4 #[.slice A n c, .int .i64 from_, .int .i64 kind] w fun e w' => e = .returned (.bool true) ∧ Below w.heap.size w w' := by
  have LV := Lib.hid (lives16_any w hp)
  clear hp
  by_cases h1 : 6000 < n
  · have hd : decide ((6000 : Int) < (n : Int)) = true := decide_eq_true (by omega)
    have hd2 : decide (6000 < n) = true := decide_eq_true h1
    clear hn
    go_enter Tryz.func4, Tryz.ntmps4
    go_wp2_with (go_at_call 6; (with_reducible refine (LV.out).mono ?_); rintro e w1 ⟨rfl, hb1⟩)
    go_ret
    exact ⟨rfl, hb1⟩
  · have hd : decide ((6000 : Int) < (n : Int)) = false := decide_eq_false (by omega)
    have hd2 : decide (6000 < n) = false := decide_eq_false h1
    have hz : (n : Int).tdiv 256 = 0 := by rw [Int.tdiv_eq_ediv_of_nonneg (by omega)]; omega
    have hn2 : n ≤ 255 := by omega
    clear hn h1
    go_enter Tryz.func4, Tryz.ntmps4
    go_wp2_with (go_at_call 6; (with_reducible refine (LV.out).mono ?_); rintro e w1 ⟨rfl, hb1⟩)
    go_ret
    exact ⟨rfl, hb1⟩

theorem alloconce_walk (A : Option Addr) (n c : Nat) (l : List UInt8) (from_ kind : Int) (w : World) (h : Bytes8 w A n c l) (_hf : -9223372036854775808 ≤ from_ ∧ from_ ≤ 9223372036854775807) (_hk : -9223372036854775808 ≤ kind ∧ kind ≤ 9223372036854775807) (hg : ErrT w) (hp : Pow w) :
    Calls Tryz.prog 4 #[.slice A n c, .int .i64 from_, .int .i64 kind] w fun e w' => e = .returned (.bool true) ∧ Below w.heap.size w w' := by
  by_cases hn : 6000 < n ∨ n ≤ 255
  · exact once_else A n c from_ kind w hp h.le hn
  · exact once_good A n c l from_ kind w h hg hp (by omega) (by omega)

end Go.Proofs.YtajeelbeochojaaGreatDoor

/-
  The walk of AllocNobody.
-/
namespace Go.Proofs.YtajeelbeochojaaGreatDoor
open Go.RowKit
set_option linter.unusedVariables false
set_option linter.unusedSimpArgs false

/-- an Alloc that no constructor returned, and a row of two pointers: nil and that one -/
def nob16 (w : World) : World := (w.alloc (.cells #[.pointer none, .pointer none, .slice none 0 0, .int .i64 0] 66)).alloc (.cells #[.pointer none, .pointer (some ⟨w.heap.size, 0, none⟩)] 30)
theorem nob16_size (w : World) : (nob16 w).heap.size = w.heap.size + 2 := by simp [nob16]
theorem nob16_bel (w : World) : Below w.heap.size w (nob16 w) := ((Below.refl _ _).alloc (Nat.le_refl _) _).alloc (by simp) _
structure Nb16 (w W : World) : Prop where
  bel : Below (w.heap.size + 2) (nob16 w) W
section
variable {w W W' : World}
theorem Nb16.later (h : Nb16 w W) (hb : Below W.heap.size W W') : Nb16 w W' := ⟨h.bel.trans (hb.mono (by have := h.bel.size; rw [nob16_size] at this; exact this))⟩
theorem Nb16.below (h : Nb16 w W) : Below w.heap.size w W := (nob16_bel w).trans (h.bel.mono (by omega))
theorem Nb16.zero (h : Nb16 w W) : W.cell? ⟨w.heap.size, 0, none⟩ = some (.pointer none) := by
  rw [h.bel.cell (p := ⟨w.heap.size, 0, none⟩) (by show w.heap.size < _; omega)]
  exact cell_of_row _ w.heap.size 0 _ _ _ ((Below.heap_alloc _ _ _ (by simp)).trans (heap_alloc_new w _))
theorem Nb16.row (h : Nb16 w W) : W.cell? ⟨w.heap.size + 1, 0, none⟩ = some (.pointer none) ∧ W.cell? ⟨w.heap.size + 1, 1, none⟩ = some (.pointer (some ⟨w.heap.size, 0, none⟩)) := by
  have hh : (nob16 w).heap[w.heap.size + 1]? = some (.cells #[.pointer none, .pointer (some ⟨w.heap.size, 0, none⟩)] 30 (0, 0)) := by
    have := heap_alloc_new (w.alloc (.cells #[.pointer none, .pointer none, .slice none 0 0, .int .i64 0] 66)) (.cells #[.pointer none, .pointer (some ⟨w.heap.size, 0, none⟩)] 30)
    rwa [World.size_alloc] at this
  refine ⟨?_, ?_⟩
  · rw [h.bel.cell (p := ⟨w.heap.size + 1, 0, none⟩) (by show w.heap.size + 1 < _; omega)]
    exact cell_of_row _ _ 0 _ _ _ hh
  · rw [h.bel.cell (p := ⟨w.heap.size + 1, 1, none⟩) (by show w.heap.size + 1 < _; omega)]
    exact cell_of_row _ _ 1 _ _ _ hh
end

set_option maxRecDepth 100000 in
set_option maxHeartbeats 3200000 in
theorem allocnobody_walk (from_ kind : Int) (A : Option Addr) (n c : Nat) (l0 : List UInt8) (w : World) (_hf : -9223372036854775808 ≤ from_ ∧ from_ ≤ 9223372036854775807) (_hk : -9223372036854775808 ≤ kind ∧ kind ≤ 9223372036854775807) (_h : Bytes8 w A n c l0) (hg : ErrT w) (hp : Pow w) :
    Calls Tryz.prog 5 #[.int .i64 from_, .int .i64 kind, .slice A n c] w fun e w' => e = .returned (.bool true) ∧ Below w.heap.size w w' := by
  have hN0 : Nb16 w (nob16 w) := ⟨Below.refl _ _⟩
  have NX : Hid (∀ W v, Nb16 w W → No16 W v → Calls Tryz.prog 15 #[v] W fun e w' => e = .returned (.tuple #[.int .i64 0, .iface 60 (.int .i64 18)]) ∧ W = w') := fun W v hW hv => Next_no16 W hv
  have LY : Hid (∀ W v, Nb16 w W → No16 W v → Calls Tryz.prog 17 #[v, .int .i64 kind, .slice A n c] W fun e w' => e = .returned (.tuple #[.int .i64 0, .iface 60 (.int .i64 18)]) ∧ W = w') := fun W v hW hv => Lay_no16 kind A n c W hv
  have CO : Hid (∀ W x, Nb16 w W → Calls Tryz.prog 27 #[.iface 60 (.int .i64 x)] W fun e w' => e = .returned (.int .i64 x) ∧ Nb16 w w' ∧ Below W.heap.size W w') := fun W x hW => (Code_err (x := .num x) (l := []) (w := W) rfl (hg.later hW.below)).mono fun e w' ⟨h1, h2⟩ => ⟨h1, hW.later h2, h2⟩
  have LF : Hid (∀ W v, Nb16 w W → No16 W v → Calls Tryz.prog 19 #[v] W fun e w' => e = .returned (.int .i64 0) ∧ W = w') := fun W v hW hv => Left_no16 W hv
  have US : Hid (∀ W v, Nb16 w W → No16 W v → Calls Tryz.prog 20 #[v] W fun e w' => e = .returned (.int .i64 0) ∧ W = w') := fun W v hW hv => Used_no16 W hv
  have AH : Hid (∀ W v, Nb16 w W → No16 W v → Calls Tryz.prog 22 #[v, .int .i64 3] W fun e w' => e = .returned (.slice none 0 0) ∧ W = w') := fun W v hW hv => Ahead_no16 W hv
  have IM : Hid (∀ W v, Nb16 w W → No16 W v → Calls Tryz.prog 24 #[v] W fun e w' => e = .returned (.pointer none) ∧ W = w') := fun W v hW hv => Image_no16 W hv
  have NW := Lib.hid (fun W => New_nil16 from_ W)
  have FR := Lib.hid (fun W => From_nil16 none 0 0 W)
  have LV : Hid (∀ W, Nb16 w W → Calls Tryz.prog 6 #[] W fun e w' => e = .returned (.bool true) ∧ Below w.heap.size w w') := fun W hW => (lives16_any W (hp.later hW.below)).mono fun e w' ⟨h1, h2⟩ => ⟨h1, hW.below.trans (h2.mono hW.below.size)⟩
  have hU : (w.alloc (.cells #[.pointer none, .pointer none, .slice none 0 0, .int .i64 0] 66)).alloc (.cells #[.pointer none, .pointer (some ⟨w.heap.size, 0, none⟩)] 30) = nob16 w := rfl
  have HN0 := Lib.hid hN0
  clear hg hp _hf _hk _h hN0
  go_enter Tryz.func5, Tryz.ntmps5
  go_wp2
  go_loopw [22] (fun i wr => ∃ k : Nat, k ≤ 2 ∧ i = .int .i64 k ∧ Hid (Nb16 w wr)) (fun i _ => 2 - (intOf i).toNat)
  case atStart => exact ⟨0, by omega, rfl, HN0⟩
  case round =>
    obtain ⟨k, hk, rfl, hN⟩ := hrel
    by_cases hlt : k < 2
    · obtain ⟨r0, r1⟩ := hN.out.row
      obtain ⟨v, hv, hno⟩ : ∃ v, wr.cell? ⟨w.heap.size + 1, k, none⟩ = some v ∧ ∀ W, Nb16 w W → No16 W v := by
        match k, hlt with
        | 0, _ => exact ⟨_, r0, fun W _ => .inl rfl⟩
        | 1, _ => exact ⟨_, r1, fun W hW => .inr ⟨_, rfl, hW.zero⟩⟩
      have HV := Lib.hid hno
      clear r0 r1 hno
      go_wp2_with (first
        | (go_at_call 15; (with_reducible refine (NX.out _ _ hN.out (HV.out _ hN.out)).mono ?_); rintro e w1 ⟨rfl, rfl⟩)
        | (go_at_call 17; (with_reducible refine (LY.out _ _ hN.out (HV.out _ hN.out)).mono ?_); rintro e w1 ⟨rfl, rfl⟩)
        | (go_at_call 27; first
            | ((with_reducible refine (CO.out _ _ hN2).mono ?_); rintro e w3 ⟨rfl, hN3, hb3⟩)
            | ((with_reducible refine (CO.out _ _ hN.out).mono ?_); rintro e w2 ⟨rfl, hN2, hb2⟩))
        | (go_at_call 19; (with_reducible refine (LF.out _ _ hN3 (HV.out _ hN3)).mono ?_); rintro e w1 ⟨rfl, rfl⟩)
        | (go_at_call 20; (with_reducible refine (US.out _ _ hN3 (HV.out _ hN3)).mono ?_); rintro e w1 ⟨rfl, rfl⟩)
        | (go_at_call 22; (with_reducible refine (AH.out _ _ hN3 (HV.out _ hN3)).mono ?_); rintro e w1 ⟨rfl, rfl⟩)
        | (go_at_call 24; (with_reducible refine (IM.out _ _ hN3 (HV.out _ hN3)).mono ?_); rintro e w1 ⟨rfl, rfl⟩))
      go_roundw
      case rel => exact ⟨k + 1, by omega, by go_num, hN3⟩
      case measure => simp only [intOf]; omega
    · obtain rfl : k = 2 := by omega
      go_wp2_with (first
        | (go_at_call 9; (with_reducible refine (NW.out _).mono ?_); rintro e w1 ⟨rfl, rfl⟩)
        | (go_at_call 11; (with_reducible refine (FR.out _).mono ?_); rintro e w2 ⟨rfl, hb2⟩; have hN2 := hN.out.later hb2)
        | (go_at_call 27; first
            | ((with_reducible refine (CO.out _ _ hN3).mono ?_); rintro e w4 ⟨rfl, hN4, hb4⟩)
            | ((with_reducible refine (CO.out _ _ hN2).mono ?_); rintro e w3 ⟨rfl, hN3, hb3⟩))
        | (go_at_call 6; (with_reducible refine (LV.out _ hN4).mono ?_); rintro e w5 ⟨rfl, hb5⟩))
      go_ret
      exact ⟨rfl, hb5⟩
end Go.Proofs.YtajeelbeochojaaGreatDoor
