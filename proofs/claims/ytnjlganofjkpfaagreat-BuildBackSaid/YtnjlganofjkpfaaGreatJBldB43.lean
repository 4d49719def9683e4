/-
  Joined: BlkR, BlkW, AlcB, AlcC, AlcD, AlcE, AlcR, AlcS, AlcT, AlcU, BldLay, BldB, BldC, BldD.
-/
import Derived.Test.YtnjlganofjkpfaaGreatJBldB42
import Derived.Test.YtnjlganofjkpfaaGreatJBldB27
import Derived.Test.YtnjlganofjkpfaaGreatJBldB26
import Derived.Test.YtnjlganofjkpfaaGreatJBldB23
import Derived.Test.YtnjlganofjkpfaaGreatJBldB21
import Derived.Test.YtnjlganofjkpfaaGreatJBldB39
import Derived.Test.YtnjlganofjkpfaaGreatJBldB02
import Derived.Test.YtnjlganofjkpfaaGreatJBldB22
import Derived.Test.YtnjlganofjkpfaaGreatJBldB18
import Derived.Test.YtnjlganofjkpfaaGreatJBldB03
import Derived.Deep.RegionWith
import Derived.Deep.RegionHeld3
import Derived.Deep.DeepCutAuto
import Derived.Test.YtnjlganofjkpfaaGreatJBldB34
import Derived.Test.YtnjlganofjkpfaaGreatJBldB37
import Derived.Test.YtnjlganofjkpfaaGreatJBldB36
import Derived.Test.YtnjlganofjkpfaaGreatJBldB31
import Derived.Test.YtnjlganofjkpfaaGreatJBldB20
/-
  Layer 11's reference: At, in, Bits, Index.
-/
namespace Go.Proofs.YtnjlganofjkpfaaGreat
open Go.RowKit
set_option linter.unusedVariables false
set_option linter.unusedSimpArgs false

theorem Trs.newer {w w' : World} {A : Option Addr} {n c : Nat} {l : List Slt} {B : Nat} (h : Trs w A n c l) (hA : Newer B A) (hk : ∀ k, B ≤ k → w'.heap[k]? = w.heap[k]?) : Trs w' A n c l :=
  ⟨h.len, h.cap, h.most, fun k hkl => by
    obtain ⟨ad, e, h0, h1, h2⟩ := h.row k hkl
    have hb : ∀ j, w'.cell? (ad.add j) = w.cell? (ad.add j) := fun j => World.cell?_of_block (hk _ (by rw [addr_add_block]; exact hA ad e))
    exact ⟨ad, e, (hb _).trans h0, (hb _).trans h1, (hb _).trans h2⟩⟩

end Go.Proofs.YtnjlganofjkpfaaGreat

/-
  Layer 11: Write, the program's and the reference's.
-/
namespace Go.Proofs.YtnjlganofjkpfaaGreat
open Go.RowKit
set_option linter.unusedVariables false
set_option linter.unusedSimpArgs false

theorem grown_below {w w' : World} (hb : Below w.heap.size w w') (r : Option Nat) : w.grownBy w' r := ⟨hb.os, hb.tape, hb.output, hb.size, fun k hk _ => hb.block k hk⟩
theorem grown_kept {w w' : World} {g : Nat} (hk : Kept g w w') : w.grownBy w' (some g) := ⟨hk.os, hk.tape, hk.output, by rw [hk.size]; exact Nat.le_refl _, fun k _ hne => hk.block k (fun e => hne (by rw [e]))⟩
theorem grown_trans {a b c : World} {r : Option Nat} (h : a.grownBy b r) (k : b.grownBy c r) : a.grownBy c r :=
  ⟨k.os.trans h.os, k.tape.trans h.tape, k.output.trans h.output, Nat.le_trans h.size k.size, fun i hi hne => (k.block i (Nat.lt_of_lt_of_le hi h.size) hne).trans (h.block i hi hne)⟩
theorem wrE11_seal {n : Nat} {no kind : Int} {l : List UInt8} (h : sealE kind no l.length ≠ 0) : wrE11 n no kind l = sealE kind no l.length := by rw [wrE11, if_pos h]
theorem wrE11_ok {n : Nat} {no kind : Int} {l : List UInt8} (h : sealE kind no l.length = 0) : wrE11 n no kind l = if outB n no = true then 3 else 0 := by rw [wrE11, if_neg (fun e => e h)]
theorem wrL11_bad {L : List UInt8} {n : Nat} {no kind : Int} {l : List UInt8} (h : wrE11 n no kind l ≠ 0) : wrL11 L n no kind l = L := by rw [wrL11, if_neg h]
theorem wrL11_good {L : List UInt8} {n : Nat} {no kind : Int} {l : List UInt8} (h : wrE11 n no kind l = 0) : wrL11 L n no kind l = splice L (no.toNat * 256) (sealB kind no l) := by rw [wrL11, if_pos h]

/-- a sealed block, written by image's Write -/
theorem imgWrite_any {w : World} {B p g n : Nat} {L l : List UInt8} (no : Int) (A : Option Addr) (c : Nat) (h : Img w B p g L) (hL : L.length = n * 256) (hl : Bytes8 w A 256 c l) :
    Calls Tryz.prog 70 #[.pointer (some ⟨p, 0, none⟩), .int .i64 no, .slice A 256 c] w fun e w' => e = .returned (.int .i64 (if outB n no = true then 3 else 0)) ∧ Img w' B p g (if outB n no = true then L else splice L (no.toNat * 256) l) ∧ w.grownBy w' (some g) := by
  cases ho : outB n no with
  | true =>
    refine (Write_bad p no n A 256 c w (Blocks_img w h hL) (outB_iff.1 ho)).mono ?_
    rintro e w' ⟨rfl, rfl⟩
    exact ⟨rfl, by simpa using h, grown_below (Below.refl _ _) _⟩
  | false =>
    obtain ⟨h0, h1⟩ := outB_not.1 ho
    obtain ⟨k, rfl⟩ := Int.eq_ofNat_of_zero_le h0
    refine (Write_img k A c w h hL (by omega) hl).mono ?_
    rintro e w' ⟨rfl, hk, hi⟩
    exact ⟨rfl, by simpa using hi, grown_kept hk⟩

set_option maxRecDepth 100000 in
set_option maxHeartbeats 1600000 in
theorem blockWrite_bad {w : World} (pv : Value) (no kind : Int) {A : Option Addr} {m c : Nat} {l : List UInt8} (hB : Bytes8 w A m c l) (hs : sealE kind no l.length ≠ 0) :
    Calls Tryz.prog 54 #[pv, .int .i64 no, .int .i64 kind, .slice A m c] w fun e w' => ∃ v, e = .returned v ∧ ErrAt w' v no (sealE kind no l.length) ∧ Below w.heap.size w w' := by
  have S := Lib.hid (Seal_any kind no A m c l w hB)
  have AT := Lib.hid (fun x W => bat_any no x W)
  rw [hB.len] at hs ⊢
  have hne : (sealE kind no m == 0) = false := by simpa using hs
  clear hB
  generalize sealE kind no m = x at *
  generalize sealB kind no l = bb at *
  go_enter Tryz.func54, Tryz.ntmps54
  go_wp2_with (first
    | (go_at_call 69; (with_reducible refine (S.out).mono ?_); rintro e w1 ⟨A1, m1, c1, rfl, hB1, hb1⟩; clear hB1)
    | (go_at_call 71; (with_reducible refine (AT.out _ _).mono ?_); rintro e w4 ⟨v, rfl, hv, hb4⟩; have HV := Lib.hid hv; clear hv))
  go_ret
  exact ⟨v, rfl, HV.out, hb1.trans (hb4.mono hb1.size)⟩

/-! what image's Write may do: the error, and what it leaves, which bears what is laid behind -/
set_option maxRecDepth 100000 in
set_option maxHeartbeats 1600000 in
theorem blockWrite_of {w : World} (pv : Value) (no kind y : Int) {A : Option Addr} {m c : Nat} {l : List UInt8} (hB : Bytes8 w A m c l) (hs : sealE kind no l.length = 0) (r : Option Nat) (Q : World → Prop) (hQ : ∀ W W', Below W.heap.size W W' → Q W → Q W')
    (WR : ∀ W A c, Below w.heap.size w W → Bytes8 W A 256 c (sealB kind no l) → Calls Tryz.prog 70 #[pv, .int .i64 no, .slice A 256 c] W fun e w' => e = .returned (.int .i64 y) ∧ Q w' ∧ W.grownBy w' r) :
    Calls Tryz.prog 54 #[pv, .int .i64 no, .int .i64 kind, .slice A m c] w fun e w' => ∃ v, e = .returned v ∧ ErrAt w' v no y ∧ Q w' ∧ w.grownBy w' r := by
  have S : Hid (Calls Tryz.prog 69 #[.int .i64 kind, .int .i64 no, .slice A m c] w fun e w' => ∃ g, e = .returned (.tuple #[.slice (some ⟨g, 0, none⟩) 256 256, .int .i64 0]) ∧ Bytes8 w' (some ⟨g, 0, none⟩) 256 256 (sealB kind no l) ∧ Below w.heap.size w w') :=
    (Seal_good kind no A m c l w hB (by rw [← hB.len]; exact hs)).mono fun e w' ⟨g, h1, h2, h3⟩ => ⟨g, h1, h2.bytes (n := 256) (sealB_length hs) (by omega), h3⟩
  have W2 := Lib.hid WR
  have HQ := Lib.hid hQ
  have AT := Lib.hid (fun x W => bat_any no x W)
  clear hB hs WR hQ
  generalize sealB kind no l = bb at *
  go_enter Tryz.func54, Tryz.ntmps54
  go_wp2_with (first
    | (go_at_call 69; (with_reducible refine (S.out).mono ?_); rintro e w1 ⟨g1, rfl, hB1, hb1⟩; have HB1 := Lib.hid hB1; clear hB1)
    | (go_at_call 70; (with_reducible refine (W2.out _ _ _ hb1 HB1.out).mono ?_); rintro e w2 ⟨rfl, hq, hg⟩; have HQ2 := Lib.hid hq; have HG := Lib.hid hg; clear hq hg)
    | (go_at_call 71; (with_reducible refine (AT.out _ _).mono ?_); rintro e w4 ⟨v, rfl, hv, hb4⟩; have HV := Lib.hid hv; clear hv))
  go_ret
  exact ⟨v, rfl, HV.out, HQ.out _ _ hb4 HQ2.out, grown_trans (grown_trans (grown_below hb1 _) HG.out) (grown_below hb4 _)⟩

/-- of an image -/
theorem blockWrite_any {w : World} {B p g n : Nat} {L : List UInt8} (no kind : Int) (h : Img w B p g L) (hL : L.length = n * 256) {A : Option Addr} {m c : Nat} {l : List UInt8} (hB : Bytes8 w A m c l) :
    Calls Tryz.prog 54 #[.pointer (some ⟨p, 0, none⟩), .int .i64 no, .int .i64 kind, .slice A m c] w fun e w' => ∃ v, e = .returned v ∧ ErrAt w' v no (wrE11 n no kind l) ∧ Img w' B p g (wrL11 L n no kind l) ∧ w.grownBy w' (some g) := by
  by_cases hs : sealE kind no l.length = 0
  · have := blockWrite_of (.pointer (some ⟨p, 0, none⟩)) no kind (if outB n no = true then 3 else 0) hB hs (some g) (fun W => Img W B p g (if outB n no = true then L else splice L (no.toNat * 256) (sealB kind no l))) (fun W W' hb hi => hi.later hb) (fun W A c hW hb => imgWrite_any no A c (h.later hW) hL hb)
    rw [wrE11_ok hs]
    cases ho : outB n no with
    | true =>
      rw [wrL11_bad (by rw [wrE11_ok hs, ho]; decide)]
      simp only [ho] at this
      exact this
    | false =>
      rw [wrL11_good (by rw [wrE11_ok hs, ho]; rfl)]
      simp only [ho] at this
      exact this
  · rw [wrL11_bad (by rw [wrE11_seal hs]; exact hs), wrE11_seal hs]
    exact (blockWrite_bad _ no kind hB hs).mono fun e w' ⟨v, h1, h2, h3⟩ => ⟨v, h1, h2, h.later h3, grown_below h3 _⟩
/-! ### the reference's -/
end Go.Proofs.YtnjlganofjkpfaaGreat

/-
  Layer 16: Next, Lay, slices.Clone, Ahead.
-/
namespace Go.Proofs.YtnjlganofjkpfaaGreat
open Go.RowKit
set_option linter.unusedVariables false
set_option linter.unusedSimpArgs false

section
variable {w : World} {base p m : Nat} {A : Option Addr} {n c : Nat} {l : List Int} {t : Nat}
theorem Next_some16 (h : Alc w base p m A n c l t) (ht : t < n) : Calls Tryz.prog 55 #[.pointer (some ⟨p, 0, none⟩)] w fun e w' => e = .returned (.tuple #[.int .i64 (l.getD t 0), .nilIface]) ∧ Alc w' base p m A n c l (t + 1) ∧ w.grownBy w' (some p) := by
  have NX : Hid (Calls Tryz.prog 53 #[.pointer (some ⟨p, 0, none⟩)] w fun e w' => e = .returned (.tuple #[.int .i64 (l.getD t 0), .nilIface]) ∧ Hid (Alc w' base p m A n c l t) ∧ Below w.heap.size w w') := (next_some16 h ht).mono fun e w' ⟨h1, h2⟩ => ⟨h1, h.later h2, h2⟩
  have TK : Hid (∀ W, Alc W base p m A n c l t → Calls Tryz.prog 72 #[.pointer (some ⟨p, 2, none⟩)] W fun e w' => e = .returned (.tuple #[]) ∧ Hid (Alc w' base p m A n c l (t + 1)) ∧ W.grownBy w' (some p)) := fun W hW => take16 hW ht
  clear h ht
  generalize l.getD t 0 = x at *
  go_enter Tryz.func55, Tryz.ntmps55
  go_wp2_with (first
    | (go_at_call 53; (with_reducible refine (NX.out).mono ?_); rintro e w1 ⟨rfl, ha, hb⟩)
    | (go_at_call 72; (with_reducible refine (TK.out _ ha.out).mono ?_); rintro e w2 ⟨rfl, ha2, hg2⟩))
  go_ret2
  exact ⟨rfl, ha2.out, grown_trans (grown_below hb _) hg2⟩

/-- all but two blocks as it was -/
structure Fr2 (w w' : World) (r1 r2 : Option Nat) : Prop where
  os : w'.os = w.os
  tape : w'.tape = w.tape
  output : w'.output = w.output
  size : w.heap.size ≤ w'.heap.size
  block : ∀ k, k < w.heap.size → some k ≠ r1 → some k ≠ r2 → w'.heap[k]? = w.heap[k]?
theorem Fr2.of_below {w w' : World} (h : Below w.heap.size w w') (r1 r2 : Option Nat) : Fr2 w w' r1 r2 := ⟨h.os, h.tape, h.output, h.size, fun k hk _ _ => h.block k hk⟩
theorem Fr2.of_two {a b c : World} {r1 r2 : Option Nat} (h : a.grownBy b r1) (k : b.grownBy c r2) : Fr2 a c r1 r2 := ⟨k.os.trans h.os, k.tape.trans h.tape, k.output.trans h.output, Nat.le_trans h.size k.size, fun i hi h1 h2 => (k.block i (Nat.lt_of_lt_of_le hi h.size) h2).trans (h.block i hi h1)⟩
theorem Fr2.trans {a b c : World} {r1 r2 : Option Nat} (h : Fr2 a b r1 r2) (k : Fr2 b c r1 r2) : Fr2 a c r1 r2 := ⟨k.os.trans h.os, k.tape.trans h.tape, k.output.trans h.output, Nat.le_trans h.size k.size, fun i hi h1 h2 => (k.block i (Nat.lt_of_lt_of_le hi h.size) h1 h2).trans (h.block i hi h1 h2)⟩
/-- an allocator and its image -/
structure AImg (w : World) (base p m B g : Nat) (A : Option Addr) (n c : Nat) (l : List Int) (t : Nat) (L : List UInt8) : Prop where
  alc : Alc w base p m A n c l t
  img : Img w B m g L
  mlt : m < base
  glt : g < base
end
theorem AImg.later {w w' : World} {base p m B g : Nat} {A : Option Addr} {n c : Nat} {l : List Int} {t : Nat} {L : List UInt8} (h : AImg w base p m B g A n c l t L) (hb : Below w.heap.size w w') : AImg w' base p m B g A n c l t L := ⟨h.alc.later hb, h.img.later hb, h.mlt, h.glt⟩

section
variable {w : World} {base p m B g : Nat} {A : Option Addr} {n c : Nat} {l : List Int} {t : Nat} {L : List UInt8}
theorem AImg.next (h : AImg w base p m B g A n c l t L) (ht : t < n) : Calls Tryz.prog 55 #[.pointer (some ⟨p, 0, none⟩)] w fun e w' => e = .returned (.tuple #[.int .i64 (l.getD t 0), .nilIface]) ∧ AImg w' base p m B g A n c l (t + 1) L ∧ w.grownBy w' (some p) :=
  (Next_some16 h.alc ht).mono fun e w' ⟨h1, h2, h3⟩ => ⟨h1, ⟨h2, ⟨h.img.bp, h.img.bg, h.img.ne, (h3.block m h.img.plt (fun e => by injection e with e; have := h.mlt; have := h.alc.bp; omega)).trans h.img.hp, (h3.block g h.img.glt (fun e => by injection e with e; have := h.glt; have := h.alc.bp; omega)).trans h.img.hg, h.img.most⟩, h.mlt, h.glt⟩, h3⟩

/-- a block is left, and it is written -/
theorem Lay_good16 {q : Nat} (kind : Int) {Ai : Option Addr} {ni ci : Nat} {li : List UInt8} (h : AImg w base p m B g A n c l t L) (hL : L.length = q * 256) (ht : t < n) (hB : Bytes8 w Ai ni ci li) (hx : wrE11 q (l.getD t 0) kind li = 0) :
    Calls Tryz.prog 41 #[.pointer (some ⟨p, 0, none⟩), .int .i64 kind, .slice Ai ni ci] w fun e w' => e = .returned (.tuple #[.int .i64 (l.getD t 0), .nilIface]) ∧ AImg w' base p m B g A n c l (t + 1) (wrL11 L q (l.getD t 0) kind li) ∧ ∃ W, w.grownBy W (some g) ∧ W.grownBy w' (some p) := by
  have NX : Hid (Calls Tryz.prog 53 #[.pointer (some ⟨p, 0, none⟩)] w fun e w' => e = .returned (.tuple #[.int .i64 (l.getD t 0), .nilIface]) ∧ w'.cell? ⟨p, 1, none⟩ = some (.pointer (some ⟨m, 0, none⟩)) ∧ Below w.heap.size w w') := (next_some16 h.alc ht).mono fun e w' ⟨h1, h2⟩ => ⟨h1, (h.alc.later h2).cell1, h2⟩
  have WR : Hid (∀ W, Below w.heap.size w W → Calls Tryz.prog 54 #[.pointer (some ⟨m, 0, none⟩), .int .i64 (l.getD t 0), .int .i64 kind, .slice Ai ni ci] W fun e w' => e = .returned .nilIface ∧ Hid (AImg w' base p m B g A n c l t (wrL11 L q (l.getD t 0) kind li)) ∧ W.grownBy w' (some g)) := fun W hW => by
    refine (blockWrite_any (l.getD t 0) kind (h.later hW).img hL (hB.below hW)).mono ?_
    rintro e w' ⟨v, h1, h2, h3, h4⟩
    have hv : v = .nilIface := by
      rcases h2 with ⟨_, h⟩ | ⟨h, _⟩
      · exact h
      · exact absurd hx h
    subst hv
    exact ⟨h1, ⟨(h.later hW).alc.grown h4 h.glt, h3, h.mlt, h.glt⟩, h4⟩
  have NE : Hid (∀ W L', AImg W base p m B g A n c l t L' → Calls Tryz.prog 55 #[.pointer (some ⟨p, 0, none⟩)] W fun e w' => e = .returned (.tuple #[.int .i64 (l.getD t 0), .nilIface]) ∧ Hid (AImg w' base p m B g A n c l (t + 1) L') ∧ W.grownBy w' (some p)) := fun W L' hW => hW.next ht
  clear h ht hB hx
  generalize wrL11 L q (l.getD t 0) kind li = L2 at *
  generalize l.getD t 0 = no at *
  go_enter Tryz.func41, Tryz.ntmps41
  go_wp2_with (first
    | (go_at_call 53; (with_reducible refine (NX.out).mono ?_); rintro e w1 ⟨rfl, hc1, hb⟩)
    | (go_at_call 54; (with_reducible refine (WR.out _ hb).mono ?_); rintro e w2 ⟨rfl, hi, hg⟩)
    | (go_at_call 55; (with_reducible refine (NE.out _ _ hi.out).mono ?_); rintro e w3 ⟨rfl, hi3, hg3⟩))
  go_ret2
  exact ⟨rfl, hi3.out, w2, grown_trans (grown_below hb _) hg, hg3⟩
end

/-! ### slices.Clone, Ahead -/
theorem lt_of_own16 {w : World} {base : Nat} {e : TypeId} {size n m c : Nat} {A : Option Addr} {xs : List Value} (h : w.ownsRow base e size (.slice A m c) n xs) : ∀ ad, A = some ad → ad.block < w.heap.size := by
  intro ad e
  subst e
  rcases h.2 with ⟨hv, _⟩ | ⟨g, cap, cur, hv, hg, hh, _⟩
  · cases hv
  · injection hv with h1
    injection h1 with h1
    rw [h1]
    exact block_lt hh
theorem eql_slice16 (A : Option Addr) (n c : Nat) (w : World) : (binOp .eql 33 (.slice A n c) (.slice none 0 0)).run Tryz.prog w = .ok (.bool A.isNone) w := by
  have h : ∀ d : Nat, (Op.equalIn (d + 1) 33 (.slice A n c) (.slice none 0 0)).run Tryz.prog w = .ok A.isNone w := fun d => by
    cases A <;> simp [Op.equalIn, run_underlying Tryz.underlying33]
  simp only [binOp]
  simp [Op.equal, Op.maxDepth, h 9999]
set_option maxRecDepth 100000 in
set_option maxHeartbeats 800000 in
theorem Clone16 {w : World} {A : Option Addr} {n c : Nat} {l : List Int} (h : Ints w A n c l) (hn : n ≤ 17592186044416) :
    Calls Tryz.prog 39 #[.slice A n c] w fun e w' => ∃ A2 c2, e = .returned (.slice A2 n c2) ∧ Ints w' A2 n c2 l ∧ Newer w.heap.size A2 ∧ (∀ ad, A2 = some ad → ad.block < w'.heap.size) ∧ Below w.heap.size w w' := by
  cases A with
  | none =>
    obtain rfl : l = [] := by
      cases l with
      | nil => rfl
      | cons x r => obtain ⟨ad, e, _⟩ := h.row 0 (.int .i64 x) rfl; cases e
    obtain rfl : n = 0 := h.len.symm
    clear h
    have kn : (binOp .eql 33 (.slice none 0 c) (.slice none 0 0)).run Tryz.prog w = .ok (.bool true) w := eql_slice16 none 0 c w
    go_enter Tryz.func39, Tryz.ntmps39
    go_wp2
    go_ret
    exact ⟨none, 0, rfl, Ints.nil _, Newer.nil _, fun ad e => (by cases e), Below.refl _ _⟩
  | some ad =>
    have HI := Lib.hid h
    have hl := h.len
    have HL := Lib.hid hl
    clear h hl
    have kn : (binOp .eql 33 (.slice (some ad) n c) (.slice none 0 0)).run Tryz.prog w = .ok (.bool false) w := eql_slice16 (some ad) n c w
    go_enter Tryz.func39, Tryz.ntmps39
    go_wp2_with (at_builtin; refine wpList_append_row _ rfl _ _ 33 rfl w.heap.size 3 (.int .i64 0) 8 Tryz.underlying33 info_i64 rfl _ 0 [] rfl (own_empty w 3) (by simp) (some ad) (i64s l) n c rfl (by rw [i64s_length]; exact HL.out) (HI.out.row.below ((Below.refl _ _).alloc (Nat.le_refl _) _)) (i64s_one _) (by omega) (by omega) ?_; intro v2 w2 hown2 hs2 hb2)
    have hx := hown2.out
    rw [Nat.zero_add, List.nil_append] at hx
    obtain ⟨A2, c2, rfl, hI2⟩ := Ints.of_own hx
    have hN2 := Newer.of_own hx
    have hT2 := lt_of_own16 hx
    go_ret
    exact ⟨A2, c2, rfl, hI2, hN2, hT2, ((Below.refl w.heap.size w).alloc (Nat.le_refl _) (.cells #[] 3)).trans hb2⟩
end Go.Proofs.YtnjlganofjkpfaaGreat

/-
  Layer 16: Ahead; what a nobody tells; From.
-/
namespace Go.Proofs.YtnjlganofjkpfaaGreat
open Go.RowKit
set_option linter.unusedVariables false
set_option linter.unusedSimpArgs false

section
variable {w : World} {base p m : Nat} {A : Option Addr} {n c : Nat} {l : List Int} {t : Nat}
end

/-! ### nobody -/
section
variable {v : Value} (w : World) (h : No16 w v)
include h
end

/-! ### From -/
/-- is x no block of q that may be handed out? -/
def outR16 (q : Nat) (x : Int) : Bool := decide (x < 1) || decide ((q : Int) ≤ x)
/-- do they rise? -/
def Rises16 (l : List Int) : Prop := ∀ i, i + 1 < l.length → l.getD i 0 < l.getD (i + 1) 0

set_option maxRecDepth 100000 in
theorem out_any16 {B m g q : Nat} {L : List UInt8} (bx : Nat) (x : Int) (w : World) (hI : Img w B m g L) (hL : L.length = q * 256) (hbx : w.cell? ⟨bx, 0, none⟩ = some (.pointer (some ⟨m, 0, none⟩))) :
    Calls Tryz.prog 38 #[.int .i64 x, .pointer (some ⟨bx, 0, none⟩)] w fun e w' => e = .returned (.bool (outR16 q x)) ∧ w = w' := by
  have BK := Lib.hid (Blocks_img w hI hL)
  clear hI hL
  by_cases h1 : x < 1
  · rw [show outR16 q x = true by simp [outR16, h1]]
    go_enter Tryz.func38, Tryz.ntmps38
    go_wp2
    go_ret
    exact ⟨rfl, rfl⟩
  · have e : outR16 q x = decide ((q : Int) ≤ x) := by simp [outR16, h1]
    rw [e]
    go_enter Tryz.func38, Tryz.ntmps38
    go_wp2_with (go_at_call 25; (with_reducible refine (BK.out).mono ?_); rintro e w1 ⟨rfl, rfl⟩)
    go_ret
    exact ⟨rfl, rfl⟩

set_option maxRecDepth 100000 in
theorem IndexFunc16 {A : Option Addr} {n c : Nat} {l : List Int} (bx : Nat) (f : Int → Bool) (w : World) (h : Ints w A n c l)
    (hf : ∀ x, Calls Tryz.prog 38 #[.int .i64 x, .pointer (some ⟨bx, 0, none⟩)] w fun e w' => e = .returned (.bool (f x)) ∧ w = w') :
    Calls Tryz.prog 49 #[.slice A n c, .func (.func 38) #[] #[.pointer (some ⟨bx, 0, none⟩)]] w fun e w' => ∃ i : Int, e = .returned (.int .i64 i) ∧ (0 ≤ i ↔ l.any f = true) ∧ w = w' := by
  have hl := h.len
  have hle := h.le
  have HI := Lib.hid h
  have HL := Lib.hid hl
  have HF := Lib.hid hf
  clear h hl hf
  go_enter Tryz.func49, Tryz.ntmps49
  go_wp2
  go_loopw [8] (fun i wr => ∃ k : Nat, k ≤ n ∧ i = .int .i64 k ∧ wr = w ∧ Hid ((l.take k).any f = false)) (fun i _ => n - (intOf i).toNat)
  case atStart => exact ⟨0, by omega, rfl, rfl, by simp [Hid]⟩
  case round =>
    obtain ⟨k, hk, rfl, rfl, hno⟩ := hrel
    by_cases hlt : k < n
    · have hkl : k < l.length := by have := HL.out; omega
      obtain ⟨b, off, rfl, hb, hc⟩ := HI.out.row.lit (by rw [i64s_length]; omega)
      have hck := hc k _ (i64s_at l k hkl)
      have HT := Lib.hid (List.take_succ_eq_append_getElem hkl)
      have HM := Lib.hid (List.getElem_mem hkl)
      clear hc
      generalize l[k] = x at *
      cases hx : f x with
      | true =>
        have FX : Hid (Calls Tryz.prog 38 #[.int .i64 x, .pointer (some ⟨bx, 0, none⟩)] wr fun e w' => e = .returned (.bool true) ∧ wr = w') := by have := HF.out x; rwa [hx] at this
        have HX := Lib.hid hx
        clear hx
        go_wp2_with (go_at_call 38; (with_reducible refine (FX.out).mono ?_); rintro e w1 ⟨rfl, rfl⟩)
        go_ret
        exact ⟨_, rfl, ⟨fun _ => List.any_eq_true.2 ⟨x, HM.out, HX.out⟩, fun _ => by omega⟩, rfl⟩
      | false =>
        have FX : Hid (Calls Tryz.prog 38 #[.int .i64 x, .pointer (some ⟨bx, 0, none⟩)] wr fun e w' => e = .returned (.bool false) ∧ wr = w') := by have := HF.out x; rwa [hx] at this
        have HX := Lib.hid hx
        clear hx
        go_wp2_with (go_at_call 38; (with_reducible refine (FX.out).mono ?_); rintro e w1 ⟨rfl, rfl⟩)
        go_roundw
        case rel =>
          refine ⟨k + 1, by omega, by go_num, by first | rfl | trivial, ?_⟩
          show _ = _
          rw [HT.out, List.any_append, hno.out]
          simp [HX.out]
        case measure => simp only [intOf]; omega
    · obtain rfl : k = n := by omega
      go_wp2
      go_ret
      refine ⟨_, rfl, ⟨fun h => by omega, fun hm => ?_⟩, rfl⟩
      have := hno.out
      rw [List.take_of_length_le (by have := HL.out; omega)] at this
      rw [this] at hm
      cases hm

set_option maxRecDepth 100000 in
theorem ContainsFunc16 {A : Option Addr} {n c : Nat} {l : List Int} (bx : Nat) (f : Int → Bool) (w : World) (h : Ints w A n c l)
    (hf : ∀ x, Calls Tryz.prog 38 #[.int .i64 x, .pointer (some ⟨bx, 0, none⟩)] w fun e w' => e = .returned (.bool (f x)) ∧ w = w') :
    Calls Tryz.prog 37 #[.slice A n c, .func (.func 38) #[] #[.pointer (some ⟨bx, 0, none⟩)]] w fun e w' => e = .returned (.bool (l.any f)) ∧ w = w' := by
  have IX := Lib.hid (IndexFunc16 bx f w h hf)
  clear h hf
  cases hm : l.any f with
  | true =>
    have HM := Lib.hid hm
    clear hm
    go_enter Tryz.func37, Tryz.ntmps37
    go_wp2_with (go_at_call 49; (with_reducible refine (IX.out).mono ?_); rintro e w1 ⟨i, rfl, hi, rfl⟩; have hi0 : 0 ≤ i := hi.2 HM.out; clear hi)
    go_ret
    exact ⟨rfl, rfl⟩
  | false =>
    have HM := Lib.hid hm
    clear hm
    go_enter Tryz.func37, Tryz.ntmps37
    go_wp2_with (go_at_call 49; (with_reducible refine (IX.out).mono ?_); rintro e w1 ⟨i, rfl, hi, rfl⟩; have hi0 : decide (0 ≤ i) = false := decide_eq_false (fun h => by have := hi.1 h; rw [HM.out] at this; cases this); clear hi)
    go_ret
    exact ⟨rfl, rfl⟩

end Go.Proofs.YtnjlganofjkpfaaGreat

/-
  Layer 16: From, New.
-/
namespace Go.Proofs.YtnjlganofjkpfaaGreat
open Go.RowKit
set_option linter.unusedVariables false
set_option linter.unusedSimpArgs false

theorem build_queue16 (A : Option Addr) (n c : Nat) (w : World) : (Instr.build 57 #[(0, .slice A n c)]).run Tryz.prog w = .ok (.agg #[.slice A n c, .int .i64 0]) w := run_build w _ _ _ (by kernel_rfl)
theorem build_alloc16 (m : Nat) (A : Option Addr) (n c : Nat) (w : World) : (Instr.build 59 #[(1, .pointer (some ⟨m, 0, none⟩)), (2, .agg #[.slice A n c, .int .i64 0])]).run Tryz.prog w = .ok (.agg #[.pointer none, .pointer (some ⟨m, 0, none⟩), .slice A n c, .int .i64 0]) w := run_build w _ _ _ (by kernel_rfl)

theorem Alc.new {w : World} {base m n c : Nat} {A : Option Addr} {l : List Int} (hI : Ints w A n c l) (hN : Newer base A) (hT : ∀ ad, A = some ad → ad.block < w.heap.size) (hb : base ≤ w.heap.size) :
    Alc (w.alloc (.cells #[.pointer (some ⟨w.heap.size, 0, none⟩), .pointer (some ⟨m, 0, none⟩), .slice A n c, .int .i64 0] 59)) base w.heap.size m A n c l 0 :=
  ⟨hb, heap_alloc_new w _, hI.below ((Below.refl _ _).alloc (Nat.le_refl _) _), Nat.zero_le _, fun ad e => ⟨hN ad e, hT ad e⟩⟩

section
variable {w : World} {B m g q : Nat} {L : List UInt8} {A : Option Addr} {n c : Nat} {l : List Int}
/-- the image's variable in its box -/
theorem box16 (hI : Img w B m g L) (hL : L.length = q * 256) (h : Ints w A n c l) (W : World) (hb : Below (w.heap.size + 1) (w.alloc (.cells #[.pointer (some ⟨m, 0, none⟩)] 39)) W) :
    Calls Tryz.prog 37 #[.slice A n c, .func (.func 38) #[] #[.pointer (some ⟨w.heap.size, 0, none⟩)]] W fun e w' => e = .returned (.bool (l.any (outR16 q))) ∧ W = w' := by
  have h1 : W.cell? ⟨w.heap.size, 0, none⟩ = some (.pointer (some ⟨m, 0, none⟩)) := by
    rw [hb.cell (p := ⟨w.heap.size, 0, none⟩) (by simp)]
    exact cell_of_row _ _ 0 _ _ _ (heap_alloc_new w _)
  have hw : Below w.heap.size w W := ((Below.refl _ _).alloc (Nat.le_refl _) _).trans (hb.mono (by omega))
  exact ContainsFunc16 _ _ W (h.below hw) (fun x => out_any16 _ x W (hI.later hw) hL h1)

set_option maxRecDepth 100000 in
set_option maxHeartbeats 1600000 in
theorem From_good16 (hI : Img w B m g L) (hL : L.length = q * 256) (h : Ints w A n c l) (ho : l.any (outR16 q) = false) (hr : Rises16 l) (hn : n ≤ 1000000) :
    Calls Tryz.prog 26 #[.pointer (some ⟨m, 0, none⟩), .slice A n c] w fun e w' => ∃ p A2 c2, e = .returned (.tuple #[.pointer (some ⟨p, 0, none⟩), .nilIface]) ∧ Alc w' w.heap.size p m A2 n c2 l 0 ∧ Below w.heap.size w w' := by
  have CF := Lib.hid (box16 hI hL h _ (Below.refl _ _))
  rw [ho] at CF
  have hb : Below w.heap.size w (w.alloc (.cells #[.pointer (some ⟨m, 0, none⟩)] 39)) := (Below.refl _ _).alloc (Nat.le_refl _) _
  have hc : (w.alloc (.cells #[.pointer (some ⟨m, 0, none⟩)] 39)).cell? ⟨w.heap.size, 0, none⟩ = some (.pointer (some ⟨m, 0, none⟩)) := cell_of_row _ _ 0 _ _ _ (heap_alloc_new w _)
  obtain ⟨w0, hw0⟩ : ∃ w0, w.alloc (.cells #[.pointer (some ⟨m, 0, none⟩)] 39) = w0 := ⟨_, rfl⟩
  rw [hw0] at hb hc CF
  have HI := Lib.hid (h.below hb)
  have hle := h.le
  have HL := Lib.hid h.len
  have HR := Lib.hid hr
  have HB := Lib.hid hb
  clear hI hL h ho hr hb
  go_enter Tryz.func26, Tryz.ntmps26
  go_wp2_with (go_at_call 37; (with_reducible refine (CF.out).mono ?_); rintro e w1 ⟨rfl, rfl⟩)
  go_loopw [6] (fun i wr => ∃ j : Nat, (j + 1 ≤ n ∨ j = 0) ∧ i = .int .i64 ((j : Int) + 1) ∧ Hid (Below w0.heap.size w0 wr)) (fun i _ => n - (intOf i).toNat)
  case atStart => exact ⟨0, .inr rfl, by go_num, Below.refl _ _⟩
  case round =>
    obtain ⟨j, hj, rfl, hbr⟩ := hrel
    by_cases hlt : j + 1 < n
    · have hkl : j + 1 < l.length := by have := HL.out; omega
      obtain ⟨b, off, rfl, hbl, hcc⟩ := HI.out.row.lit (by rw [i64s_length]; omega)
      have hc0 : wr.cell? ⟨b, off + j, none⟩ = some (.int .i64 (l.getD j 0)) := by
        rw [hbr.out.cell (p := ⟨b, off + j, none⟩) hbl, hcc j _ (i64s_at l j (by omega))]
        simp [List.getD_eq_getElem?_getD, List.getElem?_eq_getElem (show j < l.length by omega)]
      have hc1 : wr.cell? ⟨b, off + (j + 1), none⟩ = some (.int .i64 (l.getD (j + 1) 0)) := by
        rw [hbr.out.cell (p := ⟨b, off + (j + 1), none⟩) hbl, hcc (j + 1) _ (i64s_at l (j + 1) hkl)]
        simp [List.getD_eq_getElem?_getD, List.getElem?_eq_getElem hkl]
      clear hcc
      have hx := HR.out j hkl
      generalize l.getD (j + 1) 0 = x1 at hc1 hx
      generalize l.getD j 0 = x0 at hc0 hx
      have hd : decide (x1 ≤ x0) = false := decide_eq_false (by omega)
      go_wp2
      go_quiet (fail)
      go_wp2
      go_roundw
      case rel => exact ⟨j + 1, by omega, by go_num, below_drewN hbr.out _⟩
      case measure => simp only [intOf]; omega
    · have hcb : wr.cell? ⟨w.heap.size, 0, none⟩ = some (.pointer (some ⟨m, 0, none⟩)) := (hbr.out.cell (p := ⟨w.heap.size, 0, none⟩) (cell_lt hc)).trans hc
      have hcd := hcb
      rw [← World.cell?_drew] at hcd
      have hbw := HB.out.trans (hbr.out.mono HB.out.size)
      have hIr := HI.out.below hbr.out
      have CL : Hid (∀ W, Below wr.heap.size wr W → Calls Tryz.prog 39 #[.slice A n c] W fun e w' => ∃ A2 c2, e = .returned (.slice A2 n c2) ∧ Hid (Ints w' A2 n c2 l) ∧ Hid (Newer w.heap.size A2) ∧ Hid (∀ ad, A2 = some ad → ad.block < w'.heap.size) ∧ Below wr.heap.size wr w' ∧ w'.cell? ⟨w.heap.size, 0, none⟩ = some (.pointer (some ⟨m, 0, none⟩))) := fun W hW => (Clone16 (hIr.below hW) (by omega)).mono fun e w' ⟨A2, c2, h1, h2, h3, h3', h4⟩ => by
        have h5 := hW.trans (h4.mono hW.size)
        exact ⟨A2, c2, h1, h2, h3.mono (Nat.le_trans hbw.size hW.size), h3', h5, (h5.cell (p := ⟨w.heap.size, 0, none⟩) (cell_lt hcb)).trans hcb⟩
      have HBW := Lib.hid hbw
      have hdr : Below wr.heap.size wr wr.drew := (Below.refl _ _).drew
      have kq := build_queue16
      have ka := build_alloc16
      clear hbr hbw hIr HI HB HL HR CF
      go_wp2
      go_region_with (first
        | (go_at_call 39; (with_reducible refine (CL.out _ hdr).mono ?_); rintro e w5 ⟨A2, c2, rfl, hI2, hN2, hT2, hb2, hc2⟩))
      all_goals go_wp2
      all_goals go_ret2
      all_goals exact ⟨_, A2, c2, rfl, Alc.new hI2.out hN2.out hT2.out (Nat.le_trans HBW.out.size hb2.size), (HBW.out.trans (hb2.mono HBW.out.size)).alloc (Nat.le_trans HBW.out.size hb2.size) _⟩
end
end Go.Proofs.YtnjlganofjkpfaaGreat

/-
  Layer 16: New.
-/
namespace Go.Proofs.YtnjlganofjkpfaaGreat
open Go.RowKit
set_option linter.unusedVariables false
set_option linter.unusedSimpArgs false

/-- the blocks from f on, below q -/
def seq16 (f q : Nat) : List Int := (List.range' f (q - f)).map Int.ofNat
theorem seq16_length (f q : Nat) : (seq16 f q).length = q - f := by simp [seq16]
theorem seq16_start (f : Nat) : seq16 f f = [] := by simp [seq16]
theorem seq16_succ {f k : Nat} (h : f ≤ k) : seq16 f (k + 1) = seq16 f k ++ [(k : Int)] := by
  unfold seq16
  rw [show k + 1 - f = (k - f) + 1 by omega, List.range'_concat, List.map_append]
  simp
  omega
theorem seq16_getD {f q i : Nat} (h : i < q - f) : (seq16 f q).getD i 0 = ((f + i : Nat) : Int) := by
  have hl : i < (seq16 f q).length := by rw [seq16_length]; exact h
  simp only [List.getD_eq_getElem?_getD, List.getElem?_eq_getElem hl, Option.getD_some]
  simp [seq16]
theorem seq16_rises (f q : Nat) : Rises16 (seq16 f q) := fun i hi => by
  rw [seq16_length] at hi
  rw [seq16_getD (by omega), seq16_getD (by omega)]
  omega
theorem seq16_in {f q : Nat} (h : 1 ≤ f) : (seq16 f q).any (outR16 q) = false := by
  rw [List.any_eq_false]
  intro x hx
  obtain ⟨j, hj, rfl⟩ := List.mem_map.1 hx
  rw [List.mem_range'_1] at hj
  simp [outR16]
  omega

section
variable {w : World} {B m g q : Nat} {L : List UInt8}
theorem New_bad16 (f : Int) (hI : Img w B m g L) (hL : L.length = q * 256) (hf : f < 1 ∨ (q : Int) < f) : Calls Tryz.prog 13 #[.pointer (some ⟨m, 0, none⟩), .int .i64 f] w fun e w' => e = .returned (.tuple #[.pointer none, .iface 49 (.int .i64 1)]) ∧ w = w' := by
  have BK := Lib.hid (Blocks_img w hI hL)
  clear hI hL
  by_cases h1 : f < 1
  · go_enter Tryz.func13, Tryz.ntmps13
    go_wp2
    go_ret2
    exact ⟨rfl, rfl⟩
  · have h2 : (q : Int) < f := by omega
    go_enter Tryz.func13, Tryz.ntmps13
    go_wp2_with (go_at_call 25; (with_reducible refine (BK.out).mono ?_); rintro e w1 ⟨rfl, rfl⟩)
    go_ret2
    exact ⟨rfl, rfl⟩

set_option maxRecDepth 100000 in
set_option maxHeartbeats 1600000 in
theorem New_good16 (f : Nat) (hI : Img w B m g L) (hL : L.length = q * 256) (h1 : 1 ≤ f) (h2 : f ≤ q) :
    Calls Tryz.prog 13 #[.pointer (some ⟨m, 0, none⟩), .int .i64 (f : Int)] w fun e w' => ∃ p A2 c2, e = .returned (.tuple #[.pointer (some ⟨p, 0, none⟩), .nilIface]) ∧ Alc w' w.heap.size p m A2 (q - f) c2 (seq16 f q) 0 ∧ Below w.heap.size w w' := by
  have hq : q ≤ 14400 := by have := hI.most; omega
  have BK : Hid (∀ W, Below w.heap.size w W → Calls Tryz.prog 25 #[.pointer (some ⟨m, 0, none⟩)] W fun e w' => e = .returned (.int .i64 (q : Int)) ∧ W = w') := fun W hW => Blocks_img W (hI.later hW) hL
  have FG : Hid (∀ W A c, Below w.heap.size w W → Ints W A (q - f) c (seq16 f q) → Calls Tryz.prog 26 #[.pointer (some ⟨m, 0, none⟩), .slice A (q - f) c] W fun e w' => ∃ p A2 c2, e = .returned (.tuple #[.pointer (some ⟨p, 0, none⟩), .nilIface]) ∧ Hid (Alc w' w.heap.size p m A2 (q - f) c2 (seq16 f q) 0) ∧ Below w.heap.size w w') := fun W A c hW hl => (From_good16 (hI.later hW) hL hl (seq16_in h1) (seq16_rises f q) (by omega)).mono fun e w' ⟨p, A2, c2, h1, h2, h3⟩ => ⟨p, A2, c2, h1, ⟨Nat.le_trans hW.size h2.bp, h2.hp, h2.ints, h2.le, fun ad e => ⟨Nat.le_trans hW.size (h2.low ad e).1, (h2.low ad e).2⟩⟩, hW.trans (h3.mono hW.size)⟩
  clear hI hL
  have hW0 : Below w.heap.size w w := Below.refl _ _
  have hd1 : decide ((f : Int) < 1) = false := decide_eq_false (by omega)
  have hd2 : decide ((q : Int) < (f : Int)) = false := decide_eq_false (by omega)
  have hd3 : decide (q < f) = false := decide_eq_false (by omega)
  go_enter Tryz.func13, Tryz.ntmps13
  go_wp2_with (go_at_call 25; (with_reducible refine (BK.out _ hW0).mono ?_); rintro e w1 ⟨rfl, rfl⟩)
  go_loopw [6, 7] (fun s i wr => ∃ k : Nat, f ≤ k ∧ k ≤ q ∧ i = .int .i64 k ∧ Below w.heap.size w wr ∧ Hid (wr.ownsRow w.heap.size 3 1 s (k - f) (i64s (seq16 f k)))) (fun _ i _ => q - (intOf i).toNat)
  case atStart => exact ⟨f, Nat.le_refl _, h2, rfl, hW0, by rw [seq16_start, Nat.sub_self]; exact World.ownsRow_nil _ _ _ _⟩
  case round =>
    obtain ⟨k, hk1, hk2, rfl, hbr, ho⟩ := hrel
    by_cases hlt : k < q
    · go_wp2_with (first
        | (go_at_call 25; (with_reducible refine (BK.out _ hbr).mono ?_); rintro e w1 ⟨rfl, rfl⟩)
        | (at_builtin; refine wpList_append_new wr rfl _ _ 33 rfl w.heap.size 3 3 (.int .i64 0) 8 Tryz.underlying33 info_i64 rfl u6 (k - f) _ rfl ho hbr.size [.int .i64 (k : Int)] 1 1 rfl rfl (i64s_one [(k : Int)]) (by omega) (by omega) ?_; intro v2 w2 hown2 hs2 hb2))
      go_roundw
      case rel =>
        have hx := hown2.out
        rw [show i64s (seq16 f k) ++ [.int .i64 (k : Int)] = i64s (seq16 f (k + 1)) by rw [seq16_succ hk1, i64s_append]; rfl, show k - f + 1 = k + 1 - f by omega] at hx
        exact ⟨k + 1, by omega, by omega, by go_num, hbr.trans hb2, hx⟩
      case measure => simp only [intOf]; omega
    · obtain rfl : k = q := by omega
      obtain ⟨A1, c1, rfl, hI1⟩ := Ints.of_own ho.out
      have HI1 := Lib.hid hI1
      clear hI1 ho
      go_wp2_with (first
        | (go_at_call 25; (with_reducible refine (BK.out _ hbr).mono ?_); rintro e w1 ⟨rfl, rfl⟩)
        | (go_at_call 26; (with_reducible refine (FG.out _ _ _ hbr HI1.out).mono ?_); rintro e w2 ⟨p, A2, c2, rfl, ha, hb2⟩))
      go_ret2
      exact ⟨p, A2, c2, rfl, ha.out, hb2⟩
end
end Go.Proofs.YtnjlganofjkpfaaGreat

/-
  Layer 16: the reference's allocator; its From.
-/
namespace Go.Proofs.YtnjlganofjkpfaaGreat
open Go.RowKit
set_option linter.unusedVariables false
set_option linter.unusedSimpArgs false

section
variable {w w' : World} {base p m : Nat} {fr : List Int} {u : Nat}
end

section
variable {w : World} {B m q : Nat} {v : Value} {M : List (List UInt8)} {A : Option Addr} {n c : Nat} {l : List Int}

end
end Go.Proofs.YtnjlganofjkpfaaGreat

/-
  Layer 16: the reference's New, Take, Ahead.
-/
namespace Go.Proofs.YtnjlganofjkpfaaGreat
open Go.RowKit
set_option linter.unusedVariables false
set_option linter.unusedSimpArgs false

section
variable {w : World} {B m q : Nat} {v : Value} {M : List (List UInt8)}
end

section
variable {w : World} {base p m : Nat} {fr : List Int} {u : Nat}
end
end Go.Proofs.YtnjlganofjkpfaaGreat

/-
  Layer 16: the reference's Lay; layer 11's Write of the reference once more, with what it leaves told block by block.
-/
namespace Go.Proofs.YtnjlganofjkpfaaGreat
open Go.RowKit
set_option linter.unusedVariables false
set_option linter.unusedSimpArgs false

section
variable {w w' : World} {base p m B : Nat} {v : Value} {fr : List Int} {u : Nat} {M : List (List UInt8)}
section
variable {w W w2 : World} {base p m B : Nat} {v : Value} {fr : List Int} {u : Nat} {M : List (List UInt8)} {A : Option Addr} {n c : Nat} {no x : Int}
end

end
end Go.Proofs.YtnjlganofjkpfaaGreat

/-
  Layer 16: one step of either side, told by one answer.
-/
namespace Go.Proofs.YtnjlganofjkpfaaGreat
open Go.RowKit
set_option linter.unusedVariables false
set_option linter.unusedSimpArgs false

section
variable {q : Nat} {l : List Int} {nx : Bool} {kind : Int} {li : List UInt8} {t : Nat} {L : List UInt8}
end

/-- an error, as the program has it: the blocks that it tells of, its code -/
def ErrD16 (w : World) (v : Value) (bl : List Int) (x : Int) : Prop :=
  (x = 0 ∧ bl = [] ∧ v = .nilIface) ∨ ∃ nd l, v = val (nd :: l) ∧ Good w (nd :: l) ∧ codeOf (nd :: l) = x ∧ blocksOf (nd :: l) = bl ∧ (nd :: l).length ≤ 1000000
theorem ErrD16.below {w w' : World} {v : Value} {bl : List Int} {x : Int} (h : ErrD16 w v bl x) (hb : Below w.heap.size w w') : ErrD16 w' v bl x := by
  rcases h with h | ⟨nd, l, h1, h2, h3⟩
  · exact .inl h
  · exact .inr ⟨nd, l, h1, h2.below hb, h3⟩
theorem ErrD16.keep {w w' : World} {v : Value} {bl : List Int} {x : Int} (h : ErrD16 w v bl x) (hk : Keeps w w') : ErrD16 w' v bl x := by
  rcases h with h | ⟨nd, l, h1, h2, h3⟩
  · exact .inl h
  · exact .inr ⟨nd, l, h1, h2.same hk, h3⟩
theorem ErrD16.nil (w : World) : ErrD16 w .nilIface [] 0 := .inl ⟨rfl, rfl, rfl⟩
theorem ErrD16.num (w : World) (x : Int) : ErrD16 w (.iface 49 (.int .i64 x)) [] x := .inr ⟨.num x, [], rfl, rfl, rfl, rfl, by simp⟩
theorem ErrD16.at_ {w : World} {v : Value} {no x : Int} (h : ErrAt w v no x) (hx : x ≠ 0) : ErrD16 w v [no] x := by
  rcases h with ⟨h, _⟩ | ⟨_, p, h1, h2⟩
  · exact absurd h hx
  · exact .inr ⟨.flt no p, [.num x], h1, h2, rfl, rfl, by simp⟩
section
variable {w : World} {base p m B g : Nat} {A : Option Addr} {n c : Nat} {l : List Int} {t q : Nat} {L : List UInt8}
end

section
variable {w : World} {base p m B : Nat} {v : Value} {l : List Int} {t q : Nat} {L : List UInt8}
end
end Go.Proofs.YtnjlganofjkpfaaGreat

/-
  Layer 17: a node of a level is laid, on either side.
-/
namespace Go.Proofs.YtnjlganofjkpfaaGreat
open Go.RowKit
set_option linter.unusedVariables false
set_option linter.unusedSimpArgs false

section
variable {q : Nat} {tree : Int} {leaf : Bool} {mm : Nat} {l : List Ent17} {bs : List Int} {t k : Nat} {L : List UInt8}
theorem bld_wr17 (hB : Bs17 q bs) (hL : L.length = q * 256) (hk : t + k < bs.length) (hr : rightN (nodB17 tree leaf mm l k) = true) : wrE11 q (bs.getD (t + k) 0) 2 (encNod (nodB17 tree leaf mm l k)) = 0 := by
  have hb := hB.low (t + k) hk
  exact (nod_written (L := L) (no := bs.getD (t + k) 0) hL hr (outB_not.2 ⟨by omega, hb.2⟩) (by have := hB.most; omega)).1

/-- the program's -/
theorem AImg.laid17 {w : World} {base p m B g : Nat} {A : Option Addr} {n c : Nat} {Ai : Option Addr} {ni ci : Nat} (h : AImg w base p m B g A n c bs (t + k) (levW17 q tree leaf mm l bs t k L)) (hB : Bs17 q bs) (hL : L.length = q * 256) (hk : t + k < bs.length) (hr : rightN (nodB17 tree leaf mm l k) = true) (hb : Bytes8 w Ai ni ci (encNod (nodB17 tree leaf mm l k))) :
    Calls Tryz.prog 41 #[.pointer (some ⟨p, 0, none⟩), .int .i64 2, .slice Ai ni ci] w fun e w' => e = .returned (.tuple #[.int .i64 (bs.getD (t + k) 0), .nilIface]) ∧ AImg w' base p m B g A n c bs (t + (k + 1)) (levW17 q tree leaf mm l bs t (k + 1) L) ∧ Fr2 w w' (some g) (some p) := by
  have hl := levW17_length (tree := tree) (leaf := leaf) (m := mm) (l := l) (bs := bs) (t := t) k L hL
  have hx := bld_wr17 hB hl hk hr
  have hn := h.alc.ints.len
  refine (Lay_good16 2 h hl (by omega) hb hx).mono ?_
  rintro e w' ⟨h1, h2, W, h3, h4⟩
  exact ⟨h1, h2, Fr2.of_two h3 h4⟩
/-- no block is left, or some are: how many -/
theorem AImg.left17 {w : World} {base p m B g : Nat} {A : Option Addr} {n c : Nat} (h : AImg w base p m B g A n c bs t L) : Calls Tryz.prog 16 #[.pointer (some ⟨p, 0, none⟩)] w fun e w' => e = .returned (.int .i64 ((bs.length - t : Nat) : Int)) ∧ Below w.heap.size w w' := by
  have hn := h.alc.ints.len
  rw [hn]
  exact Left_yes16 h.alc

end

/-- the blocks of an allocator that New made -/
theorem seq17_bs {f q : Nat} (h1 : 1 ≤ f) (hq : q ≤ 14400) : Bs17 q (seq16 f q) := by
  refine ⟨fun i j hij hj => ?_, fun i hi => ?_, hq⟩
  · rw [seq16_length] at hj
    rw [seq16_getD (by omega), seq16_getD (by omega)]
    omega
  · rw [seq16_length] at hi
    rw [seq16_getD hi]
    omega
end Go.Proofs.YtnjlganofjkpfaaGreat

/-
  Layer 17: part, lay.
-/
namespace Go.Proofs.YtnjlganofjkpfaaGreat
open Go.RowKit
set_option linter.unusedVariables false
set_option linter.unusedSimpArgs false

theorem info_strv17 : (Tryz.prog.info? 9).map (fun i => (i.zero, i.size, i.bytes)) = some (some (.string ByteArray.empty), 1, 16) := by kernel_rfl
/-- an entry stands while a row of another type grows -/
theorem EntAt.grown {U w' : World} {p q : Nat} {k : Int} {s : ByteArray} {a : Int} {T : TypeId} {B n : Nat} {v x : Value} {xs : List Value} (h : EntAt U p k s a) (ho : U.ownsRow B T 1 v n xs) (hT : T ≠ 26) (hg : U.grownBy w' v.ownBlock) (hq : q ≠ p) (i : Nat) : EntAt (w'.setCell ⟨q, i, none⟩ x) p k s a := by
  have h1 : w'.heap[p]? = U.heap[p]? := hg.block p (block_lt h) (fun e => by
    obtain ⟨_, cur, hc⟩ := own_apart ho p e.symm
    rw [show U.heap[p]? = _ from h] at hc
    injection hc with hc
    injection hc with _ e2 _
    exact hT e2.symm)
  show (w'.setCell ⟨q, i, none⟩ x).heap[p]? = _
  rw [heap_setCell_other _ _ p _ (fun e => hq e.symm), h1]
  exact h

/-- keys and values of entries -/
abbrev keys17 (l : List Ent17) : List Int := l.map (·.1)
abbrev vals17 (l : List Ent17) : List (List UInt8) := l.map (·.2.1)
theorem keys17_step {l : List Ent17} {k : Nat} (h : k < l.length) : (keys17 l).take (k + 1) = (keys17 l).take k ++ [l[k].1] := by
  rw [List.take_succ_eq_append_getElem (by simpa using h)]
  simp
theorem vals17_step {l : List Ent17} {k : Nat} (h : k < l.length) : (vals17 l).take (k + 1) = (vals17 l).take k ++ [l[k].2.1] := by
  rw [List.take_succ_eq_append_getElem (by simpa using h)]
  simp

set_option maxRecDepth 100000 in
set_option maxHeartbeats 1600000 in
theorem part_any17 (tree : Int) (leaf : Bool) {A : Option Addr} {n c : Nat} {l : List Ent17} (w : World) (h : Ens w A n c l) (hB : EntB l) (ht : i64b tree) (hn : n ≤ 1000000) :
    Calls Tryz.prog 31 #[.int .i64 tree, .bool leaf, .slice A n c] w fun e w' => ∃ Ak ck Av cv, e = .returned (nodV ⟨tree, leaf, keys17 l, vals17 l⟩ Ak n ck Av n cv) ∧ NodIn w' ⟨tree, leaf, keys17 l, vals17 l⟩ Ak n ck Av n cv ∧ Below w.heap.size w w' ∧ Newer w.heap.size Ak ∧ Newer w.heap.size Av := by
  have hlen := h.len
  have hcap := h.cap
  have hmost := h.most
  have hk0 : (keys17 l).take n = keys17 l := List.take_of_length_le (by simp [hlen])
  have hv0 : (vals17 l).take n = vals17 l := List.take_of_length_le (by simp [hlen])
  have FN := Lib.hid (And.intro hk0 hv0)
  have KB : Hid (∀ k ∈ keys17 l, i64b k) := fun k hk => by
    obtain ⟨q, hq, rfl⟩ := List.mem_map.1 hk
    exact (hB q hq).1
  have VB : Hid (∀ v ∈ vals17 l, v.length ≤ 9223372036854775807) := fun v hv => by
    obtain ⟨q, hq, rfl⟩ := List.mem_map.1 hv
    exact (hB q hq).2
  have HT := Lib.hid ht
  have HE := Lib.hid h
  have HL := Lib.hid hlen
  have hz := NodAt.new w 0 false (.slice none 0 0) (.slice none 0 0)
  have hb0 : Below w.heap.size w (w.alloc (.cells #[.int .i64 0, .bool false, .slice none 0 0, .slice none 0 0] 70)) := (Below.refl _ _).alloc (Nat.le_refl _) _
  clear h hB ht hlen hk0 hv0
  go_enter Tryz.func31, Tryz.ntmps31
  go_wp2
  have hS0 : w.heap.size + 1 = (w.alloc (.cells #[.int .i64 0, .bool false, .slice none 0 0, .slice none 0 0] 70)).heap.size := by simp
  obtain ⟨w0, hw0⟩ : ∃ w0, w.alloc (.cells #[.int .i64 0, .bool false, .slice none 0 0, .slice none 0 0] 70) = w0 := ⟨_, rfl⟩
  rw [hw0] at hz hb0 hS0
  simp only [hw0]
  have HZ := Lib.hid hz
  have HB0 := Lib.hid hb0
  have M0 := Lib.hid (MsN.start w0 tree leaf)
  clear hz hb0 hw0
  simp only [hS0]
  go_loopw [15] (fun i wr => ∃ k : Nat, k ≤ n ∧ i = .int .i64 k ∧ Hid (∃ Ak ck Av cv, MsN w0 wr tree leaf k Ak ck k Av cv ((keys17 l).take k) ((vals17 l).take k))) (fun i _ => n - (intOf i).toNat)
  case atStart => exact ⟨0, by omega, rfl, none, 0, none, 0, by simpa using M0.out⟩
  case round =>
    clear M0
    obtain ⟨k, hk, rfl, Ak, ck, Av, cv, hS⟩ := hrel
    by_cases hlt : k < n
    · have hkl : k < l.length := by have := HL.out; omega
      have hbl : Below w.heap.size w wr := HB0.out.trans (hS.bel.mono (by omega))
      obtain ⟨b, off, hA, c0, c1, c2⟩ := (HE.out.below hbl).at_ (k := k) hlt
      subst hA
      have c1b := c1
      have c2b := c2
      rw [← Nat.add_assoc] at c1b c2b
      have HKS := Lib.hid (keys17_step hkl)
      have HVS := Lib.hid (vals17_step hkl)
      generalize l[k].1 = key at *
      generalize l[k].2.1 = vl at *
      generalize l[k].2.2 = aa at *
      clear hkl hbl
      obtain ⟨y, hy⟩ : ∃ y : ByteArray, (⟨vl.toArray⟩ : ByteArray) = y := ⟨_, rfl⟩
      rw [hy] at c1 c1b
      have HY := Lib.hid hy
      clear hy
      have hE := EntAt.new wr key y aa
      obtain ⟨e0, e1, e2⟩ := hE.cs
      have hS1 := hS.later ((Below.refl wr.heap.size wr).alloc (Nat.le_refl _) (.cells #[.int .i64 key, .string y, .int .i64 aa] 26))
      have hlt0 : w0.heap.size < wr.heap.size := by have := hS.low; omega
      have n2 := hS1.node.c2
      clear hS
      go_wp2_with (first
        | (at_builtin; (refine wpList_append_newG (wr.alloc (.cells #[.int .i64 key, .string y, .int .i64 aa] 26)) rfl (.tmp 20) (.tmp 23) _ rfl (w0.heap.size + 1) 3 _ _ 8 Tryz.underlying33 info_i64 rfl (.slice Ak k ck) _ _ rfl hS1.ok hS1.low [_] 1 1 (by rw [World.size_alloc]; rfl) rfl (by simp [Value.oneCell']) (by omega) (by omega) ?_); intro v6 w6 ho6 hg6; obtain ⟨Ak', ck', rfl, hn6, hS6⟩ := hS1.addKey ho6.out hg6.out; have m2 := hn6.c2; have g2 := Lib.frozen_of_heap hn6 2; have hE6 := hE.grown (q := w0.heap.size) (x := .slice Ak' (k + 1) ck') hS1.ok (by decide) hg6.out (by omega) 2; have n3 := hS6.node.c3; obtain ⟨x0, x1, x2⟩ := hE6.cs; have HS6 := Lib.hid hS6; clear hS6 hn6 ho6 hg6)
        | (at_builtin; go_must (refine wpList_append_newG _ rfl (.tmp 27) (.tmp 30) _ rfl (w0.heap.size + 1) 9 _ _ 16 Tryz.underlying68 info_strv17 rfl (.slice Av k cv) _ _ rfl HS6.out.ov HS6.out.low [_] 1 1 (by rw [show (w6.setCell ⟨w0.heap.size, 2, none⟩ (.slice Ak' (k + 1) ck')).heap.size = w6.heap.size by simp [World.setCell]]; rfl) rfl (by simp [Value.oneCell']) (by omega) (by omega) ?_); intro v8 w8 ho8 hg8; obtain ⟨Av', cv', rfl, hn8, hS8⟩ := HS6.out.addVal (s := vl) (by have := ho8.out; rw [← HY.out] at this; exact this) hg8.out; have m3 := hn8.c3; have g3 := Lib.frozen_of_heap hn8 3))
      go_roundw
      case rel => exact ⟨k + 1, by omega, by go_num, Ak', ck', Av', cv', by rw [HKS.out, HVS.out]; exact hS8⟩
      case measure => simp [intOf]; omega
    · obtain rfl : k = n := by omega
      rw [FN.out.1, FN.out.2] at hS
      obtain ⟨q0, q1, q2, q3⟩ := (And.intro hS.node.c0 (And.intro hS.node.c1 (And.intro hS.node.c2 hS.node.c3)))
      have hz2 : NodAt wr w.heap.size 0 false (.slice none 0 0) (.slice none 0 0) := HZ.out.keep hS.bel (by omega)
      obtain ⟨z0, z1, z2, z3⟩ := (And.intro hz2.c0 (And.intro hz2.c1 (And.intro hz2.c2 hz2.c3)))
      have y0 := Lib.frozen_of_heap hz2 0
      have y1 := Lib.frozen_of_heap hz2 1
      have y2 := Lib.frozen_of_heap hz2 2
      have y3 := Lib.frozen_of_heap hz2 3
      have HS := Lib.hid hS
      have HZ2 := Lib.hid hz2
      clear hS hz2
      go_wp2
      have hst := HZ2.out.store tree leaf (.slice Ak k ck) (.slice Av k cv)
      refine bodyPost_ret (res1_13 Tryz.results31 _ _ (a := ⟨w.heap.size, 0, none⟩) rfl (run_loadVar_row _ w.heap.size _ _ _ _ _ hst Tryz.underlying70 rfl (by kernel_rfl))) rfl ?_
      have hni := HS.out.nodin HT.out KB.out VB.out
      have hK := Newer.of_own HS.out.ok
      have hV := Newer.of_own HS.out.ov
      have hk9 : ∀ j, w.heap.size + 1 ≤ j → ((((wr.setCell ⟨w.heap.size, 0, none⟩ (.int .i64 tree)).setCell ⟨w.heap.size, 1, none⟩ (.bool leaf)).setCell ⟨w.heap.size, 2, none⟩ (.slice Ak k ck)).setCell ⟨w.heap.size, 3, none⟩ (.slice Av k cv)).heap[j]? = wr.heap[j]? := fun j hj => by
        rw [heap_setCell_other _ _ j _ (by show j ≠ w.heap.size; omega), heap_setCell_other _ _ j _ (by show j ≠ w.heap.size; omega), heap_setCell_other _ _ j _ (by show j ≠ w.heap.size; omega), heap_setCell_other _ _ j _ (by show j ≠ w.heap.size; omega)]
      refine ⟨Ak, ck, Av, cv, rfl, ⟨hni.keys.newer (hK.mono (by omega)) hk9, ⟨hni.vals.len, hni.vals.cap, hni.vals.most, hni.vals.row.newer (hV.mono (by omega)) hk9⟩, hni.tb, hni.kb, hni.vb⟩, ?_, hK.mono (by omega), hV.mono (by omega)⟩
      have hbb : Below w.heap.size w wr := HB0.out.trans (HS.out.bel.mono (by omega))
      exact below_store7 hbb (Nat.le_refl _) _ _ _ _

section
variable {q : Nat} {tree : Int} {leaf : Bool} {mm : Nat} {l : List Ent17} {bs : List Int} {t k : Nat} {L : List UInt8}
theorem Fr2.after17 {a b c : World} {r1 r2 : Option Nat} (h : Below a.heap.size a b) (k : Fr2 b c r1 r2) : Fr2 a c r1 r2 := (Fr2.of_below h r1 r2).trans k
set_option maxRecDepth 100000 in
set_option maxHeartbeats 800000 in
/-- a node is encoded and laid -/
theorem lay_any17 {w : World} {base p m B g : Nat} {A : Option Addr} {n c : Nat} {Ak : Option Addr} {nk ck : Nat} {Av : Option Addr} {nv cv : Nat} (h : AImg w base p m B g A n c bs (t + k) (levW17 q tree leaf mm l bs t k L)) (hB : Bs17 q bs) (hL : L.length = q * 256) (hk : t + k < bs.length) (hr : rightN (nodB17 tree leaf mm l k) = true) (hN : NodIn w (nodB17 tree leaf mm l k) Ak nk ck Av nv cv) :
    Calls Tryz.prog 32 #[.pointer (some ⟨p, 0, none⟩), nodV (nodB17 tree leaf mm l k) Ak nk ck Av nv cv] w fun e w' => e = .returned (.tuple #[.int .i64 (bs.getD (t + k) 0), .nilIface]) ∧ AImg w' base p m B g A n c bs (t + (k + 1)) (levW17 q tree leaf mm l bs t (k + 1) L) ∧ Fr2 w w' (some g) (some p) := by
  have hb0 : Below w.heap.size w (w.alloc (.cells #[.int .i64 tree, .bool leaf, .slice Ak nk ck, .slice Av nv cv] 70)) := (Below.refl _ _).alloc (Nat.le_refl _) _
  have PT : Hid (Calls Tryz.prog 40 #[.agg #[.int .i64 tree, .bool leaf, .slice Ak nk ck, .slice Av nv cv]] (w.alloc (.cells #[.int .i64 tree, .bool leaf, .slice Ak nk ck, .slice Av nv cv] 70)) fun e w' => ∃ g2, e = .returned (.tuple #[.slice (some ⟨g2, 0, none⟩) 244 244, .int .i64 0]) ∧ Bytes8 w' (some ⟨g2, 0, none⟩) 244 244 (encNod (nodB17 tree leaf mm l k)) ∧ Below w.heap.size w w') := by
    refine (NPut_good _ (nodB17 tree leaf mm l k) Ak nk ck Av nv cv (hN.below hb0) hr).mono ?_
    rintro e w' ⟨g2, h1, h2, h3⟩
    exact ⟨g2, h1, h2.bytes (by rw [← putK_all hr]; exact putK_length hr (Nat.le_refl _)) (by omega), hb0.trans (h3.mono hb0.size)⟩
  have LY : Hid (∀ W g2, Below w.heap.size w W → Bytes8 W (some ⟨g2, 0, none⟩) 244 244 (encNod (nodB17 tree leaf mm l k)) → Calls Tryz.prog 41 #[.pointer (some ⟨p, 0, none⟩), .int .i64 2, .slice (some ⟨g2, 0, none⟩) 244 244] W fun e w' => e = .returned (.tuple #[.int .i64 (bs.getD (t + k) 0), .nilIface]) ∧ Hid (AImg w' base p m B g A n c bs (t + (k + 1)) (levW17 q tree leaf mm l bs t (k + 1) L)) ∧ Hid (Fr2 w w' (some g) (some p))) := fun W g2 hW hb8 => by
    refine ((h.later hW).laid17 hB hL hk hr hb8).mono ?_
    rintro e w' ⟨h1, h2, h3⟩
    exact ⟨h1, h2, Fr2.after17 hW h3⟩
  obtain ⟨n0, n1, n2, n3⟩ : _ ∧ _ ∧ _ ∧ _ := And.intro (NodAt.new w tree leaf (.slice Ak nk ck) (.slice Av nv cv)).c0 (And.intro (NodAt.new w tree leaf (.slice Ak nk ck) (.slice Av nv cv)).c1 (And.intro (NodAt.new w tree leaf (.slice Ak nk ck) (.slice Av nv cv)).c2 (NodAt.new w tree leaf (.slice Ak nk ck) (.slice Av nv cv)).c3))
  have e : nodV (nodB17 tree leaf mm l k) Ak nk ck Av nv cv = .agg #[.int .i64 tree, .bool leaf, .slice Ak nk ck, .slice Av nv cv] := rfl
  rw [e]
  clear h hB hL hk hr hN hb0 e
  generalize encNod (nodB17 tree leaf mm l k) = en at *
  generalize bs.getD (t + k) 0 = no at *
  go_enter Tryz.func32, Tryz.ntmps32
  go_wp2_with (first
    | (go_at_call 40; (with_reducible refine (PT.out).mono ?_); rintro e w1 ⟨g2, rfl, hb8, hb1⟩)
    | (go_at_call 41; (with_reducible refine (LY.out _ _ hb1 hb8).mono ?_); rintro e w2 ⟨rfl, hi, hf⟩))
  go_ret2
  exact ⟨rfl, hi.out, hf.out⟩
end
end Go.Proofs.YtnjlganofjkpfaaGreat

/-
  Layer 17: write.
-/
namespace Go.Proofs.YtnjlganofjkpfaaGreat
open Go.RowKit
set_option linter.unusedVariables false
set_option linter.unusedSimpArgs false

theorem rootB17 {no : Int} (h : 1 ≤ no) (h2 : no ≤ 14399) : rootB no = encN 4 no.toNat := by
  obtain ⟨n, rfl⟩ := Int.eq_ofNat_of_zero_le (show 0 ≤ no by omega)
  have ho : okP (rootS.zip [(n : Int)]) = true := by
    simp [okP, rootS, inB]
    omega
  show bldP (rootS.zip [(n : Int)]) = _
  rw [bldP, if_pos ho]
  simp [encP, rootS]
theorem el17_take {l : List Ent17} {n m k : Nat} (hl : l.length = n) : (l.drop (k * m)).take (el15 n m k) = (l.drop (k * m)).take m := by
  unfold el15
  by_cases h : n - k * m ≤ m
  · rw [Nat.min_eq_left h, List.take_of_length_le (by rw [List.length_drop]; omega), List.take_of_length_le (by rw [List.length_drop]; omega)]
  · rw [Nat.min_eq_right (by omega)]
theorem el17_drop {l : List Ent17} {n m k : Nat} (hl : l.length = n) : (l.drop (k * m)).drop (el15 n m k) = l.drop ((k + 1) * m) := by
  rw [List.drop_drop, Nat.succ_mul]
  unfold el15
  by_cases h : n - k * m ≤ m
  · rw [Nat.min_eq_left h, List.drop_eq_nil_of_le (by omega), List.drop_eq_nil_of_le (by omega)]
  · rw [Nat.min_eq_right (by omega)]
theorem nodB17_chunk (tree : Int) (leaf : Bool) (l : List Ent17) {n m k : Nat} (hl : l.length = n) : (⟨tree, leaf, keys17 ((l.drop (k * m)).take (el15 n m k)), vals17 ((l.drop (k * m)).take (el15 n m k))⟩ : Nod) = nodB17 tree leaf m l k := by
  rw [el17_take hl]
  rfl
theorem EntB.up17 {l : List Ent17} (h : EntB l) (m : Nat) (bs : List Int) (t k : Nat) : EntB (upP17 m l bs t k) := by
  intro q hq
  unfold upP17 at hq
  split at hq
  · cases hq
  · obtain ⟨j, _, rfl⟩ := List.mem_map.1 hq
    refine ⟨?_, by simp [encN_length]⟩
    show _ ≤ ((l.drop (j * m)).headD (0, [], 0)).1 ∧ ((l.drop (j * m)).headD (0, [], 0)).1 ≤ _
    cases hd : l.drop (j * m) with
    | nil => simp
    | cons x r => exact (h x (List.mem_of_mem_drop (by rw [hd]; exact List.mem_cons_self ..))).1
theorem EntB.sub17 {l r : List Ent17} (h : EntB l) (hs : ∀ x ∈ r, x ∈ l) : EntB r := fun q hq => h q (hs q hq)

/-- blocks as they were, but for those two and what is newer -/
theorem AImg.keep17 {w w' : World} {base p m B g B9 : Nat} {A : Option Addr} {n c : Nat} {l : List Int} {t : Nat} {L : List UInt8} (h : AImg w base p m B g A n c l t L) (hb : Below B9 w w') (h1 : p < B9) : AImg w' base p m B g A n c l t L := by
  have h2 := h.mlt
  have h3 := h.glt
  have h4 := h.alc.bp
  exact ⟨h.alc.mov (hb.block p h1) (fun ad e => hb.block _ (by have := (h.alc.low ad e).2; omega)), ⟨h.img.bp, h.img.bg, h.img.ne, (hb.block m (by omega)).trans h.img.hp, (hb.block g (by omega)).trans h.img.hg, h.img.most⟩, h2, h3⟩

theorem Row.fr17 {w w' : World} {A : Option Addr} {l : List Value} {r1 r2 : Option Nat} (h : Row w A l) (hA : l ≠ [] → ∀ ad, A = some ad → some ad.block ≠ r1 ∧ some ad.block ≠ r2) (hf : Fr2 w w' r1 r2) : Row w' A l := fun k v e => by
  obtain ⟨ad, ea, hc⟩ := h k v e
  refine ⟨ad, ea, ?_⟩
  have hbk : (ad.add k).block = ad.block := addr_add_block ad k
  have := hA (fun e2 => by rw [e2] at e; simp at e) ad ea
  exact (World.cell?_of_block (w := w) (hf.block _ (cell_lt hc) (by rw [hbk]; exact this.1) (by rw [hbk]; exact this.2))).trans hc
theorem Ens.fr17 {w w' : World} {A : Option Addr} {n c : Nat} {l : List Ent17} {r1 r2 : Option Nat} (h : Ens w A n c l) (hA : 0 < n → ∀ ad, A = some ad → some ad.block ≠ r1 ∧ some ad.block ≠ r2) (hf : Fr2 w w' r1 r2) : Ens w' A n c l := ⟨h.len, h.cap, h.most, h.row.fr17 (fun e => hA (Nat.pos_of_ne_zero fun e2 => e (by have hl := h.len; rw [e2] at hl; rw [List.eq_nil_of_length_eq_zero hl]; rfl))) hf⟩

theorem Ints.fr17 {w w' : World} {A : Option Addr} {n c : Nat} {l : List Int} {r1 r2 : Option Nat} (h : Ints w A n c l) (hA : ∀ ad, A = some ad → some ad.block ≠ r1 ∧ some ad.block ≠ r2) (hf : Fr2 w w' r1 r2) : Ints w' A n c l := ⟨h.len, h.cap, h.most, h.row.fr17 (fun _ => hA) hf⟩

/-- between two nodes of a level: i are laid, j stand above, the entries from r on are left -/
structure Wr17 (w1 wr : World) (q : Nat) (tree : Int) (leaf : Bool) (mm : Nat) (l : List Ent17) (bs : List Int) (t : Nat) (L : List UInt8) (base p m B g : Nat) (A : Option Addr) (n c i j r : Nat) (A2 : Option Addr) (n2 c2 : Nat) (va : Value) : Prop where
  ai : AImg wr base p m B g A n c bs (t + i) (levW17 q tree leaf mm l bs t i L)
  rest : Ens wr A2 n2 c2 (l.drop (r * mm))
  far : 0 < n2 → ∀ ad, A2 = some ad → ad.block ≠ g ∧ ad.block ≠ p ∧ ad.block < w1.heap.size
  ab : wr.ownsRow w1.heap.size 26 3 va (upP17 mm l bs t j).length (entC (upP17 mm l bs t j))
  fr : Fr2 w1 wr (some g) (some p)
  hp : p < w1.heap.size
section
variable {w1 wr W' : World} {q : Nat} {tree : Int} {leaf : Bool} {mm : Nat} {l : List Ent17} {bs : List Int} {t : Nat} {L : List UInt8} {base p m B g : Nat} {A : Option Addr} {n c i j r : Nat} {A2 : Option Addr} {n2 c2 : Nat} {va : Value}
theorem Wr17.glt (h : Wr17 w1 wr q tree leaf mm l bs t L base p m B g A n c i j r A2 n2 c2 va) : g < w1.heap.size := by
  have := h.hp
  have := h.ai.glt
  have := h.ai.alc.bp
  omega
theorem Wr17.later (h : Wr17 w1 wr q tree leaf mm l bs t L base p m B g A n c i j r A2 n2 c2 va) (hb : Below wr.heap.size wr W') : Wr17 w1 W' q tree leaf mm l bs t L base p m B g A n c i j r A2 n2 c2 va :=
  ⟨h.ai.later hb, h.rest.below hb, h.far, own_keptS h.ab (fun k _ hk => hb.block k hk), h.fr.trans (Fr2.of_below hb _ _), h.hp⟩
theorem Wr17.laid (h : Wr17 w1 wr q tree leaf mm l bs t L base p m B g A n c i j r A2 n2 c2 va) (ha : AImg W' base p m B g A n c bs (t + (i + 1)) (levW17 q tree leaf mm l bs t (i + 1) L)) (hf : Fr2 wr W' (some g) (some p)) : Wr17 w1 W' q tree leaf mm l bs t L base p m B g A n c (i + 1) j r A2 n2 c2 va := by
  have hg := h.glt
  have hp := h.hp
  refine ⟨ha, h.rest.fr17 (fun h0 ad e => ?_) hf, h.far, own_keptS h.ab (fun k hk hs => hf.block k hs (fun e => by injection e; omega) (fun e => by injection e; omega)), h.fr.trans hf, hp⟩
  obtain ⟨a, b, _⟩ := h.far h0 ad e
  exact ⟨fun e => a (by injection e), fun e => b (by injection e)⟩
theorem Wr17.cut (h : Wr17 w1 wr q tree leaf mm l bs t L base p m B g A n c i j r A2 n2 c2 va) {A3 : Option Addr} {n3 c3 r' : Nat} (he : Ens wr A3 n3 c3 (l.drop (r' * mm))) (hn : n3 ≤ n2) (ha : ∀ ad, A3 = some ad → ∃ ad', A2 = some ad' ∧ ad.block = ad'.block) : Wr17 w1 wr q tree leaf mm l bs t L base p m B g A n c i j r' A3 n3 c3 va :=
  ⟨h.ai, he, fun h0 ad e => by obtain ⟨ad', e1, e2⟩ := ha ad e; rw [e2]; exact h.far (by omega) ad' e1, h.ab, h.fr, h.hp⟩
theorem Wr17.grew (h : Wr17 w1 wr q tree leaf mm l bs t L base p m B g A n c i j r A2 n2 c2 va) {va' : Value} {j' : Nat} (ho : W'.ownsRow w1.heap.size 26 3 va' (upP17 mm l bs t j').length (entC (upP17 mm l bs t j'))) (hg : wr.grownBy W' va.ownBlock) : Wr17 w1 W' q tree leaf mm l bs t L base p m B g A n c i j' r A2 n2 c2 va' := by
  have hp := h.hp
  have hsz := h.fr.size
  have hb : Below w1.heap.size wr W' := ⟨hg.os, hg.tape, hg.output, hg.size, fun k hk => hg.block k (by omega) (fun e => by have := (own_apartS h.ab k e.symm).1; omega)⟩
  refine ⟨h.ai.keep17 hb hp, ⟨h.rest.len, h.rest.cap, h.rest.most, fun k v e => ?_⟩, h.far, ho, ⟨hb.os.trans h.fr.os, hb.tape.trans h.fr.tape, hb.output.trans h.fr.output, Nat.le_trans h.fr.size hb.size, fun k hk h1 h2 => (hb.block k hk).trans (h.fr.block k hk h1 h2)⟩, hp⟩
  have h0 : 0 < n2 := Nat.pos_of_ne_zero fun e2 => by
    have hl := h.rest.len
    rw [e2] at hl
    rw [List.eq_nil_of_length_eq_zero hl] at e
    simp [entC] at e
  obtain ⟨ad, ea, hc⟩ := h.rest.row k v e
  refine ⟨ad, ea, ?_⟩
  have hbk : (ad.add k).block = ad.block := addr_add_block ad k
  exact (World.cell?_of_block (w := wr) (hb.block _ (by rw [hbk]; exact (h.far h0 ad ea).2.2))).trans hc
/-- nothing stands above nodes without keys -/
theorem Wr17.same (h : Wr17 w1 wr q tree leaf mm [] bs t L base p m B g A n c i j r A2 n2 c2 va) (j' : Nat) : Wr17 w1 wr q tree leaf mm [] bs t L base p m B g A n c i j' r A2 n2 c2 va :=
  ⟨h.ai, h.rest, h.far, by have := h.ab; rw [upP17_nil] at this ⊢; exact this, h.fr, h.hp⟩
theorem Wr17.none_ (h : Wr17 w1 wr q tree leaf mm l bs t L base p m B g A n c i j r A2 n2 c2 va) (hl : l = []) (j' : Nat) : Wr17 w1 wr q tree leaf mm l bs t L base p m B g A n c i j' r A2 n2 c2 va := by
  subst hl
  exact h.same j'
end
theorem el17_none {l : List Ent17} {m k : Nat} (hm : 1 ≤ m) (hk : k < fil15 l.length m) (h : el15 l.length m k = 0) : l = [] := by
  apply Classical.byContradiction
  intro hl
  have h0 : 0 < l.length := Nat.pos_of_ne_zero fun e => hl (List.eq_nil_of_length_eq_zero e)
  refine chk17_pos hm l h0 hk ?_
  show (l.drop (k * m)).take m = []
  rw [← el17_take (n := l.length) rfl, h, List.take_zero]
theorem el17_head {tree : Int} {leaf : Bool} {l : List Ent17} {m k : Nat} (hm : 1 ≤ m) (h : 0 < el15 l.length m k) : ∃ r, (nodB17 tree leaf m l k).keys = ((l.drop (k * m)).headD (0, [], 0)).1 :: r := by
  have h1 : 0 < l.length - k * m := by unfold el15 at h; omega
  show ∃ r, ((l.drop (k * m)).take m).map (·.1) = _
  cases hd : l.drop (k * m) with
  | nil =>
    have := congrArg List.length hd
    rw [List.length_drop] at this
    simp at this
    omega
  | cons x r =>
    obtain ⟨m', rfl⟩ : ∃ m', m = m' + 1 := ⟨m - 1, by omega⟩
    exact ⟨_, rfl⟩
end Go.Proofs.YtnjlganofjkpfaaGreat

/-
  Layer 17: write.
-/
namespace Go.Proofs.YtnjlganofjkpfaaGreat
open Go.RowKit
set_option linter.unusedVariables false
set_option linter.unusedSimpArgs false

theorem upP17_one {l : List Ent17} {m : Nat} {bs : List Int} {t k : Nat} (h : l ≠ []) {key no : Int} (hk : ((l.drop (k * m)).headD (0, [], 0)).1 = key) (hn : bs.getD (t + k) 0 = no) : upP17 m l bs t (k + 1) = upP17 m l bs t k ++ [(key, encN 4 no.toNat, 0)] := by
  rw [upP17_succ h, hk, hn]

theorem cell_kept17 {w w' : World} {ow : Option Nat} {a : Addr} {v : Value} (h : w.cell? a = some v) (hg : w.grownBy w' ow) (hn : ∀ k, ow = some k → k ≠ a.block) : w'.cell? a = some v := (World.cell?_of_block (w := w) (hg.block _ (cell_lt h) (fun e => hn _ e.symm rfl))).trans h

set_option maxRecDepth 100000 in
set_option maxHeartbeats 3200000 in
theorem write_any17 {w : World} {q : Nat} {tree : Int} {leaf : Bool} {mm : Nat} {l : List Ent17} {bs : List Int} {t : Nat} {L : List UInt8} {base p m B g : Nat} {A : Option Addr} {n c : Nat} {A2 : Option Addr} {n2 c2 : Nat} (h : AImg w base p m B g A n c bs t L) (hE : Ens w A2 n2 c2 l) (hfar : 0 < n2 → ∀ ad, A2 = some ad → ad.block ≠ g ∧ ad.block ≠ p) (hEB : EntB l) (hF : LvF17 q tree bs leaf mm l t L) (hB : Bs17 q bs) (ht : i64b tree) :
    Calls Tryz.prog 18 #[.pointer (some ⟨p, 0, none⟩), .int .i64 tree, .bool leaf, .slice A2 n2 c2] w fun e w' => ∃ A3 c3, e = .returned (.tuple #[.slice A3 (upP17 mm l bs t (fil15 l.length mm)).length c3, .int .i64 (bs.getD (t + fil15 l.length mm - 1) 0), .nilIface]) ∧ Ens w' A3 (upP17 mm l bs t (fil15 l.length mm)).length c3 (upP17 mm l bs t (fil15 l.length mm)) ∧ Newer w.heap.size A3 ∧ AImg w' base p m B g A n c bs (t + fil15 l.length mm) (levW17 q tree leaf mm l bs t (fil15 l.length mm) L) ∧ Fr2 w w' (some g) (some p) := by
  obtain rfl : n2 = l.length := hE.len.symm
  have hcap := hE.cap
  have hmost := hE.most
  have hfew := hF.few
  have hpos := hF.pos
  have h18 := cap15_le tree leaf
  rw [hF.cap] at h18
  have hfil := fil15_le (n := l.length) hpos
  have hfp := fil15_pos l.length mm
  have hroom := hF.room
  have hF32 : fil15 l.length mm ≤ 32768 := by omega
  have MX := Lib.hid (fun W => Max_any tree leaf W mm hF.cap)
  have SZ : Hid (Calls Tryz.prog 30 #[.int .i64 (l.length : Int), .int .i64 (mm : Int)] w fun e w' => ∃ As cs, e = .returned (.slice As (fil15 l.length mm) cs) ∧ Ints w' As (fil15 l.length mm) cs (siz15 l.length mm) ∧ (∀ ad, As = some ad → w.heap.size ≤ ad.block) ∧ Below w.heap.size w w') := by
    have := Sizes_any15F (l.length : Int) (mm : Int) w (by omega)
    have e : sizL15 (l.length : Int) (mm : Int) = siz15 l.length mm := by
      rw [sizL15, if_pos (by omega), Int.toNat_natCast, Int.toNat_natCast]
    rw [e, siz15_length] at this
    refine this.mono ?_
    rintro e w' ⟨As, cs, h1, h2, h3, h4⟩
    exact ⟨As, cs, h1, h2, h4, h3⟩
  have hplt := h.alc.plt
  have hglt := h.img.glt
  have HP := Lib.hid (And.intro hplt hglt)
  have PT : Hid (∀ (W : World) (A3 : Option Addr) (c3 k : Nat), Ens W A3 (el15 l.length mm k) c3 ((l.drop (k * mm)).take (el15 l.length mm k)) → Calls Tryz.prog 31 #[.int .i64 tree, .bool leaf, .slice A3 (el15 l.length mm k) c3] W fun e w' => ∃ Ak ck Av cv, e = .returned (.agg #[.int .i64 tree, .bool leaf, .slice Ak (el15 l.length mm k) ck, .slice Av (el15 l.length mm k) cv]) ∧ Hid (NodIn w' (nodB17 tree leaf mm l k) Ak (el15 l.length mm k) ck Av (el15 l.length mm k) cv) ∧ Hid (Below W.heap.size W w') ∧ Hid (Newer W.heap.size Ak)) := fun W A3 c3 k hc => by
    have he15 : el15 l.length mm k ≤ mm := Nat.min_le_right _ _
    have := part_any17 tree leaf W hc (hEB.sub17 fun x hx => List.mem_of_mem_drop (List.mem_of_mem_take hx)) ht (by omega)
    rw [nodB17_chunk tree leaf l rfl] at this
    refine this.mono ?_
    rintro e w' ⟨Ak, ck, Av, cv, h1, h2, h3, h4, _⟩
    exact ⟨Ak, ck, Av, cv, h1, h2, h3, h4⟩
  have LY : Hid (∀ (W w1 : World) (k r s : Nat) (A3 : Option Addr) (n3 c3 : Nat) (va : Value) (Ak : Option Addr) (ck : Nat) (Av : Option Addr) (cv : Nat), k < fil15 l.length mm → Wr17 w1 W q tree leaf mm l bs t L base p m B g A n c k k r A3 n3 c3 va → NodIn W (nodB17 tree leaf mm l k) Ak s ck Av s cv → Calls Tryz.prog 32 #[.pointer (some ⟨p, 0, none⟩), .agg #[.int .i64 tree, .bool leaf, .slice Ak s ck, .slice Av s cv]] W fun e w' => e = .returned (.tuple #[.int .i64 (bs.getD (t + k) 0), .nilIface]) ∧ Hid (Wr17 w1 w' q tree leaf mm l bs t L base p m B g A n c (k + 1) k r A3 n3 c3 va) ∧ Hid (Fr2 W w' (some g) (some p))) := fun W w1 k r s A3 n3 c3 va Ak ck Av cv hk hW hN => by
    refine (lay_any17 hW.ai hB hF.len (by omega) (hF.right k hk) hN).mono ?_
    rintro e w' ⟨h1, h2, h3⟩
    exact ⟨h1, hW.laid h2 h3, h3⟩
  have RT : Hid (∀ (W : World) (k : Nat), k < fil15 l.length mm → Calls Tryz.prog 33 #[.int .i64 (bs.getD (t + k) 0)] W fun e w' => e = .returned (.string ⟨(encN 4 (bs.getD (t + k) 0).toNat).toArray⟩) ∧ Below W.heap.size W w') := fun W k hk => by
    have h1 := hB.low (t + k) (by omega)
    have h2 := hB.most
    have := Root_any W (bs.getD (t + k) 0) (by simp only [i64b]; omega)
    rwa [rootB17 h1.1 (by omega)] at this
  have CF : Hid (∀ (W w1 : World) (i j k r : Nat) (A3 : Option Addr) (c3 : Nat) (va : Value), r = l.length - k * mm → Wr17 w1 W q tree leaf mm l bs t L base p m B g A n c i j k A3 r c3 va → (∀ V, (Instr.slice 23 (.slice A3 r c3) none (some (.int .i64 (el15 l.length mm k : Int))) none).run Tryz.prog V = .ok (.slice A3 (el15 l.length mm k) c3) V) ∧ Ens W A3 (el15 l.length mm k) c3 ((l.drop (k * mm)).take (el15 l.length mm k)) ∧ ∃ A4, (∀ V, (Instr.slice 23 (.slice A3 r c3) (some (.int .i64 (el15 l.length mm k : Int))) none none).run Tryz.prog V = .ok (.slice A4 (r - el15 l.length mm k) (c3 - el15 l.length mm k)) V) ∧ Wr17 w1 W q tree leaf mm l bs t L base p m B g A n c i j (k + 1) A4 (r - el15 l.length mm k) (c3 - el15 l.length mm k) va) := fun W w1 i j k r A3 c3 va hr hW => by
    have he : el15 l.length mm k ≤ r := by rw [hr]; exact Nat.min_le_left _ _
    obtain ⟨a1, a2⟩ := cut_toE17 hW.rest he
    obtain ⟨A4, b1, b2, b3⟩ := cut_fromE17 hW.rest he
    rw [el17_drop rfl] at b2
    exact ⟨a1, a2, A4, b1, hW.cut b2 (Nat.sub_le _ _) b3⟩
  have W0 : Hid (∀ w1, Below w.heap.size w w1 → Wr17 w1 w1 q tree leaf mm l bs t L base p m B g A n c 0 0 0 A2 l.length c2 (.slice none 0 0) ∧ Fr2 w w1 (some g) (some p)) := fun w1 hb => by
    refine ⟨⟨h.later hb, by simpa using hE.below hb, fun h0 ad e => ⟨(hfar h0 ad e).1, (hfar h0 ad e).2, ?_⟩, by rw [upP17_zero]; exact World.ownsRow_nil _ _ _ _, ⟨rfl, rfl, rfl, Nat.le_refl _, fun _ _ _ _ => rfl⟩, Nat.lt_of_lt_of_le hplt hb.size⟩, Fr2.of_below hb _ _⟩
    have hsz := hb.size
    obtain ⟨b', off', hA', hlt, _⟩ := hE.row.lit (by rw [entC_length]; omega)
    rw [hA'] at e
    injection e with e
    rw [← e]
    show b' < _
    omega
  have HEL : Hid (∀ k, el15 l.length mm k ≤ mm ∧ el15 l.length mm k = min (l.length - k * mm) mm) := fun k => ⟨Nat.min_le_right _ _, rfl⟩
  have HSZ : Hid (∀ k, k < fil15 l.length mm → (siz15 l.length mm)[k]? = some ((el15 l.length mm k : Nat) : Int)) := fun k hk => by simp [siz15, hk]
  have HRS := Lib.hid (fun k => rest15_succ l.length mm k)
  have HNO : Hid (∀ k, k < fil15 l.length mm → el15 l.length mm k = 0 → l = []) := fun k hk he => el17_none hpos hk he
  have HHD : Hid (∀ k, 0 < el15 l.length mm k → ∃ r, (nodB17 tree leaf mm l k).keys = ((l.drop (k * mm)).headD (0, [], 0)).1 :: r) := fun k he => el17_head hpos he
  have hsl : (siz15 l.length mm).length = fil15 l.length mm := siz15_length _ _
  have HSL := Lib.hid hsl
  have HFEW := Lib.hid hfew
  clear h hE hfar hEB hF hB ht hsl hfil hfew hroom hplt hglt
  generalize fil15 l.length mm = F at *
  generalize l.length = N at *
  go_enter Tryz.func18, Tryz.ntmps18
  go_wp2_with (first
    | (go_at_call 22; (with_reducible refine (MX.out _).mono ?_); rintro e w' ⟨rfl, rfl⟩)
    | (go_at_call 30; (with_reducible refine (SZ.out).mono ?_); rintro e w1 ⟨As, cs, rfl, hI, hN, hb⟩; have HI := Lib.hid hI; have HN := Lib.hid hN; have HB1 := Lib.hid hb; have hW0 := W0.out w1 hb; have HW0 := Lib.hid hW0; have hsc := hI.cap; have hsm := hI.most; clear hI hN hb hW0))
  clear SZ W0
  go_loopw [3, 11, 12, 25] (fun v3 va vl i wr => ∃ (k : Nat) (A3 : Option Addr) (r c3 : Nat) (x : Int), k ≤ F ∧ i = .int .i64 k ∧ v3 = .slice A3 r c3 ∧ vl = .int .i64 x ∧ Hid (x = if k = 0 then 0 else bs.getD (t + k - 1) 0) ∧ Hid (r = N - k * mm) ∧ Hid (Wr17 w1 wr q tree leaf mm l bs t L base p m B g A n c k k k A3 r c3 va)) (fun _ _ _ i _ => F - (intOf i).toNat)
  case atStart => exact ⟨0, A2, N, c2, 0, by omega, rfl, rfl, rfl, rfl, by show N = _; omega, HW0.out.1⟩
  case round =>
    obtain ⟨k, A3, r, c3, x, hk, rfl, rfl, rfl, hx, hr, hW⟩ := hrel
    by_cases hlt : k < F
    · have hIw : Ints wr As F cs (siz15 N mm) := HI.out.fr17 (fun ad e => by have h1 := HN.out ad e; have h2 := HP.out; exact ⟨fun e => by injection e; omega, fun e => by injection e; omega⟩) hW.out.fr
      obtain ⟨bS, oS, hAs, _, hcS⟩ := hIw.row.lit (by rw [i64s_length, HSL.out]; omega)
      have hcs : wr.cell? ⟨bS, oS + k, none⟩ = some (.int .i64 ((el15 N mm k : Nat) : Int)) := hcS k _ (by rw [i64s, List.getElem?_map, HSZ.out k hlt]; rfl)
      obtain ⟨hc1, hcE, A4, hc2, hW4⟩ := CF.out wr w1 k k k r A3 c3 u11 hr.out hW.out
      have PTk := Lib.hid (PT.out wr A3 c3 k hcE)
      have LYk := Lib.hid (fun W Ak ck Av cv h1 h2 => LY.out W w1 k (k + 1) (el15 N mm k) A4 (r - el15 N mm k) (c3 - el15 N mm k) u11 Ak ck Av cv hlt h1 h2)
      have RTk := Lib.hid (fun W => RT.out W k hlt)
      have NOk := Lib.hid (HNO.out k hlt)
      have HDk := Lib.hid (HHD.out k)
      have hel := HEL.out k
      have hrs := HRS.out k
      have hr' : Hid (r - el15 N mm k = N - (k + 1) * mm) := by have := hr.out; show _ = _; rw [hrs]; omega
      have HW4 := Lib.hid hW4
      have hRb : r ≤ N := by have := hr.out; have h2 : N - k * mm ≤ N := Nat.sub_le _ _; omega
      subst hAs
      clear hIw hcS hW4 hcE HSZ CF PT LY RT HNO HHD HEL HRS hrs hr hW
      generalize el15 N mm k = sz at *
      obtain ⟨no, hno⟩ : ∃ no, bs.getD (t + k) 0 = no := ⟨_, rfl⟩
      rw [hno] at RTk LYk
      have HNO := Lib.hid hno
      clear hno
      have hsz18 : sz ≤ 18 := by omega
      clear hel
      by_cases hz : sz = 0
      · have hd : decide ((0 : Int) < (sz : Int)) = false := decide_eq_false (by omega)
        have hd2 : decide (0 < sz) = false := decide_eq_false (by omega)
        have HZ := Lib.hid hz
        clear hz
        go_wp2_with (first
          | (go_at_call 31; (with_reducible refine (PTk.out).mono ?_); rintro e w2 ⟨Ak, ck, Av, cv, rfl, hN2, hb2, hK2⟩; obtain ⟨W3, hW3⟩ : ∃ W3, w2.alloc (.cells #[.int .i64 tree, .bool leaf, .slice Ak sz ck, .slice Av sz cv] 70) = W3 := ⟨_, rfl⟩; have hb3 : Below w2.heap.size w2 W3 := (by rw [← hW3]; exact (Below.refl _ _).alloc (Nat.le_refl _) _); have hA3 : NodAt W3 w2.heap.size tree leaf (.slice Ak sz ck) (.slice Av sz cv) := (by rw [← hW3]; exact NodAt.new _ _ _ _ _); have HA3 := Lib.hid hA3; have HN3 := Lib.hid (hN2.out.below hb3); have HW3 := Lib.hid (HW4.out.later (hb2.out.trans (hb3.mono hb2.out.size))); obtain ⟨n0, n1, n2, n3⟩ := (And.intro hA3.c0 (And.intro hA3.c1 (And.intro hA3.c2 hA3.c3))); clear hA3 hb3)
          | (go_at_call 32; (with_reducible refine (LYk.out _ _ _ _ _ HW3.out HN3.out).mono ?_); rintro e w4 ⟨rfl, hW5, hf4⟩))
        have hl := NOk.out HZ.out
        go_roundw
        case rel => exact ⟨k + 1, A4, r - sz, c3 - sz, no, by omega, by go_num, rfl, rfl, by show no = _; rw [if_neg (by omega), ← HNO.out]; rfl, hr'.out, hW5.out.none_ hl _⟩
        case measure => simp [intOf]; omega
      · have hd : decide ((0 : Int) < (sz : Int)) = true := decide_eq_true (by omega)
        have hd2 : decide (0 < sz) = true := decide_eq_true (by omega)
        go_wp2_with (first
          | (go_at_call 31; (with_reducible refine (PTk.out).mono ?_); rintro e w2 ⟨Ak, ck, Av, cv, rfl, hN2, hb2, hK2⟩; obtain ⟨W3, hW3⟩ : ∃ W3, w2.alloc (.cells #[.int .i64 tree, .bool leaf, .slice Ak sz ck, .slice Av sz cv] 70) = W3 := ⟨_, rfl⟩; have hb3 : Below w2.heap.size w2 W3 := (by rw [← hW3]; exact (Below.refl _ _).alloc (Nat.le_refl _) _); have hA3 : NodAt W3 w2.heap.size tree leaf (.slice Ak sz ck) (.slice Av sz cv) := (by rw [← hW3]; exact NodAt.new _ _ _ _ _); have HA3 := Lib.hid hA3; have HN3 := Lib.hid (hN2.out.below hb3); have HW3 := Lib.hid (HW4.out.later (hb2.out.trans (hb3.mono hb2.out.size))); obtain ⟨n0, n1, n2, n3⟩ := (And.intro hA3.c0 (And.intro hA3.c1 (And.intro hA3.c2 hA3.c3))); clear hA3 hb3)
          | (go_at_call 32; (with_reducible refine (LYk.out _ _ _ _ _ HW3.out HN3.out).mono ?_); rintro e w4 ⟨rfl, hW5, hf4⟩))
        have hsz1 := HW4.out.fr.size
        have hsz2 := hb2.out.size
        have hpg := And.intro HW4.out.hp HW4.out.glt
        have hA4 : NodAt w4 w2.heap.size tree leaf (.slice Ak sz ck) (.slice Av sz cv) := (hf4.out.block _ (block_lt HA3.out) (fun e => by injection e; omega) (fun e => by injection e; omega)).trans HA3.out
        have hKI : Ints w4 Ak sz ck (nodB17 tree leaf mm l k).keys := HN3.out.keys.fr17 (fun ad e => by have := hK2.out ad e; exact ⟨fun e => by injection e; omega, fun e => by injection e; omega⟩) hf4.out
        obtain ⟨rr, hkk⟩ := HDk.out (by omega)
        rw [hkk] at hKI
        have hln : l ≠ [] := fun e => by
          have := hKI.len
          have h2 : (nodB17 tree leaf mm l k).keys = [] := by rw [e]; simp [nodB17]
          rw [h2] at hkk
          cases hkk
        have hone := upP17_one (m := mm) (bs := bs) (t := t) (k := k) hln rfl HNO.out
        generalize ((l.drop (k * mm)).headD (0, [], 0)).1 = key0 at *
        obtain ⟨bk, ok, hAk, _, hck⟩ := hKI.row.lit (by rw [i64s_length]; simp)
        have hc0 : w4.cell? ⟨bk, ok, none⟩ = some (.int .i64 key0) := by simpa using hck 0 _ rfl
        have m2 := hA4.c2
        subst hAk
        have hbk : wr.heap.size ≤ bk := hK2.out _ rfl
        have HOB : Hid (∀ j, u11.ownBlock = some j → j < wr.heap.size) := fun j e => by
          obtain ⟨_, cur, hc⟩ := own_apartS HW4.out.ab j e
          exact block_lt hc
        obtain ⟨y, hy⟩ : ∃ y : ByteArray, (⟨(encN 4 no.toNat).toArray⟩ : ByteArray) = y := ⟨_, rfl⟩
        rw [hy] at RTk
        have HOWN : Hid (∀ W, Below w4.heap.size w4 W → W.ownsRow w1.heap.size 26 3 u11 (upP17 mm l bs t k).length (entC (upP17 mm l bs t k)) ∧ w1.heap.size ≤ W.heap.size ∧ Wr17 w1 W q tree leaf mm l bs t L base p m B g A n c (k + 1) k (k + 1) A4 (r - sz) (c3 - sz) u11) := fun W hW => by
          have h9 := hW5.out.later hW
          exact ⟨h9.ab, h9.fr.size, h9⟩
        have HUP : Hid (∀ (W : World) (v : Value) (j : Nat), Hid (W.ownsRow w1.heap.size 26 3 v (j + 1) (entC (upP17 mm l bs t k) ++ [.int .i64 key0, .string y, .int .i64 0])) → j = (upP17 mm l bs t k).length → W.ownsRow w1.heap.size 26 3 v (upP17 mm l bs t (k + 1)).length (entC (upP17 mm l bs t (k + 1)))) := fun W v j h hj => by
          rw [hone, entC_snoc, List.length_append, ← hj]
          have e : entC [(key0, encN 4 no.toNat, (0 : Int))] = [.int .i64 key0, .string y, .int .i64 0] := by rw [← hy]; rfl
          rw [e]
          exact h.out
        have hup := upP17_le mm l bs t k
        generalize (upP17 mm l bs t k).length = la at *
        clear hA4 hKI hck hkk hln hone hy HA3 HN3 HW3 hN2 hK2 hf4 PTk LYk NOk HDk n0 n1 n2 n3
        have h0z : 0 < sz := by omega
        have hdd : Below w4.heap.size w4 w4.drew := (Below.refl _ _).drew
        have md : w4.drew.cell? ⟨w2.heap.size, 2, none⟩ = some (.slice (some ⟨bk, ok, none⟩) sz ck) ∧ w4.drew.cell? ⟨bk, ok, none⟩ = some (.int .i64 key0) := ⟨(hdd.cell (p := ⟨w2.heap.size, 2, none⟩) (cell_lt m2)).trans m2, (hdd.cell (p := ⟨bk, ok, none⟩) (cell_lt hc0)).trans hc0⟩
        go_region_held3 (fun W => W.cell? ⟨w2.heap.size, 2, none⟩ = some (.slice (some ⟨bk, ok, none⟩) sz ck) ∧ W.cell? ⟨bk, ok, none⟩ = some (.int .i64 key0))
          (first | assumption | exact ⟨m2, hc0⟩ | go_keep)
          (first
          | (go_at_call 33; (with_reducible refine (RTk.out _).mono ?_); rintro e w5 ⟨rfl, hb5⟩; have m5 : w5.cell? ⟨w2.heap.size, 2, none⟩ = some (.slice (some ⟨bk, ok, none⟩) sz ck) ∧ w5.cell? ⟨bk, ok, none⟩ = some (.int .i64 key0) := ⟨(hb5.cell (p := ⟨w2.heap.size, 2, none⟩) (cell_lt md.1)).trans md.1, (hb5.cell (p := ⟨bk, ok, none⟩) (cell_lt md.2)).trans md.2⟩; have hb5' : Below w4.heap.size w4 w5 := hdd.trans (hb5.mono hdd.size); have HO6 := Lib.hid (HOWN.out (w5.alloc (.cells #[.int .i64 key0, .string y, .int .i64 0] 26)) (hb5'.alloc hb5'.size _)); have HO6a : Hid _ := HO6.out.1; have HO6b := HO6.out.2.1; clear hb5 hb5')
          | (refine step_append_rowG _ rfl (.tmp 46) (.tmp 54) 23 rfl w1.heap.size 26 3 (.agg #[.int .i64 0, .string ByteArray.empty, .int .i64 0]) 32 Tryz.underlying23 info_ent17 rfl (by omega) u11 la (entC (upP17 mm l bs t k)) rfl HO6a HO6b ⟨w5.heap.size, 0, none⟩ [.int .i64 key0, .string y, .int .i64 0] 1 1 rfl rfl (Row.of_block (t := 26) (fr := (0, 0)) (heap_alloc_new w5 _)) (by simp [Value.oneCell']) (by omega) (by omega) ?_; intro v6 w6 hown6 hg6; have HW7 := Lib.hid (HO6.out.2.2.grew (j' := k + 1) (HUP.out w6 v6 la hown6 rfl) hg6.out); have hba : Below w5.heap.size w5 (w5.alloc (.cells #[.int .i64 key0, .string y, .int .i64 0] 26)) := (Below.refl _ _).alloc (Nat.le_refl _) _; have m6 : w6.cell? ⟨w2.heap.size, 2, none⟩ = some (.slice (some ⟨bk, ok, none⟩) sz ck) ∧ w6.cell? ⟨bk, ok, none⟩ = some (.int .i64 key0) := ⟨cell_kept17 ((hba.cell (p := ⟨w2.heap.size, 2, none⟩) (cell_lt m5.1)).trans m5.1) hg6.out (fun j e => by have := HOB.out j e; show j ≠ w2.heap.size; omega), cell_kept17 ((hba.cell (p := ⟨bk, ok, none⟩) (cell_lt m5.2)).trans m5.2) hg6.out (fun j e => by have := HOB.out j e; show j ≠ bk; omega)⟩))
        clear HO6a HO6b m5 md m2 hc0 hdd
        go_wp2
        go_roundw
        case rel => exact ⟨k + 1, A4, r - sz, c3 - sz, no, by omega, by go_num, rfl, rfl, by show no = _; rw [if_neg (by omega), ← HNO.out]; rfl, hr'.out, HW7.out⟩
        case measure => simp [intOf]; omega
    · obtain rfl : k = F := by omega
      have hx2 : x = bs.getD (t + k - 1) 0 := by have := hx.out; rwa [if_neg (by omega)] at this
      go_wp2
      go_ret3
      obtain ⟨A5, c5, rfl, hE5⟩ := Ens.of_own hW.out.ab
      have hf := hW.out.fr
      exact ⟨A5, c5, by rw [hx2]; rfl, hE5, (Newer.of_own hW.out.ab).mono HB1.out.size, hW.out.ai, (Fr2.of_below HB1.out _ _).trans hf⟩
end Go.Proofs.YtnjlganofjkpfaaGreat
