/-
  Joined: BlkR, BlkW.
-/
import Derived.Test.YtmjmhoihmnbjkaaGreatJWlkC35
import Derived.Test.YtmjmhoihmnbjkaaGreatJWlkC22
import Derived.Test.YtmjmhoihmnbjkaaGreatJWlkC21
import Derived.Test.YtmjmhoihmnbjkaaGreatJWlkC18
import Derived.Test.YtmjmhoihmnbjkaaGreatJWlkC17
import Derived.Test.YtmjmhoihmnbjkaaGreatJWlkC32
import Derived.Test.YtmjmhoihmnbjkaaGreatJWlkC02
import Derived.Test.YtmjmhoihmnbjkaaGreatJWlkC14
/-
  Layer 11's reference: At, in, Bits, Index.
-/
namespace Go.Proofs.YtmjmhoihmnbjkaaGreat
open Go.RowKit
set_option linter.unusedVariables false
set_option linter.unusedSimpArgs false

theorem Trs.newer {w w' : World} {A : Option Addr} {n c : Nat} {l : List Slt} {B : Nat} (h : Trs w A n c l) (hA : Newer B A) (hk : ∀ k, B ≤ k → w'.heap[k]? = w.heap[k]?) : Trs w' A n c l :=
  ⟨h.len, h.cap, h.most, fun k hkl => by
    obtain ⟨ad, e, h0, h1, h2⟩ := h.row k hkl
    have hb : ∀ j, w'.cell? (ad.add j) = w.cell? (ad.add j) := fun j => World.cell?_of_block (hk _ (by rw [addr_add_block]; exact hA ad e))
    exact ⟨ad, e, (hb _).trans h0, (hb _).trans h1, (hb _).trans h2⟩⟩

end Go.Proofs.YtmjmhoihmnbjkaaGreat

/-
  Layer 11: Write, the program's and the reference's.
-/
namespace Go.Proofs.YtmjmhoihmnbjkaaGreat
open Go.RowKit
set_option linter.unusedVariables false
set_option linter.unusedSimpArgs false

theorem grown_below {w w' : World} (hb : Below w.heap.size w w') (r : Option Nat) : w.grownBy w' r := ⟨hb.os, hb.tape, hb.output, hb.size, fun k hk _ => hb.block k hk⟩
theorem grown_kept {w w' : World} {g : Nat} (hk : Kept g w w') : w.grownBy w' (some g) := ⟨hk.os, hk.tape, hk.output, by rw [hk.size]; exact Nat.le_refl _, fun k _ hne => hk.block k (fun e => hne (by rw [e]))⟩
theorem grown_trans {a b c : World} {r : Option Nat} (h : a.grownBy b r) (k : b.grownBy c r) : a.grownBy c r :=
  ⟨k.os.trans h.os, k.tape.trans h.tape, k.output.trans h.output, Nat.le_trans h.size k.size, fun i hi hne => (k.block i (Nat.lt_of_lt_of_le hi h.size) hne).trans (h.block i hi hne)⟩
theorem below_grown {w w' : World} {B g : Nat} (h : w.grownBy w' (some g)) (hB : B ≤ g) (hs : B ≤ w.heap.size) : Below B w w' :=
  ⟨h.os, h.tape, h.output, h.size, fun k hk => h.block k (by omega) (fun e => by injection e; omega)⟩

theorem wrE11_seal {n : Nat} {no kind : Int} {l : List UInt8} (h : sealE kind no l.length ≠ 0) : wrE11 n no kind l = sealE kind no l.length := by rw [wrE11, if_pos h]
theorem wrE11_ok {n : Nat} {no kind : Int} {l : List UInt8} (h : sealE kind no l.length = 0) : wrE11 n no kind l = if outB n no = true then 3 else 0 := by rw [wrE11, if_neg (fun e => e h)]
theorem wrL11_bad {L : List UInt8} {n : Nat} {no kind : Int} {l : List UInt8} (h : wrE11 n no kind l ≠ 0) : wrL11 L n no kind l = L := by rw [wrL11, if_neg h]
theorem wrL11_good {L : List UInt8} {n : Nat} {no kind : Int} {l : List UInt8} (h : wrE11 n no kind l = 0) : wrL11 L n no kind l = splice L (no.toNat * 256) (sealB kind no l) := by rw [wrL11, if_pos h]

/-- a sealed block, written by image's Write -/
theorem imgWrite_any {w : World} {B p g n : Nat} {L l : List UInt8} (no : Int) (A : Option Addr) (c : Nat) (h : Img w B p g L) (hL : L.length = n * 256) (hl : Bytes8 w A 256 c l) :
    Calls Tryz.prog 30 #[.pointer (some ⟨p, 0, none⟩), .int .i64 no, .slice A 256 c] w fun e w' => e = .returned (.int .i64 (if outB n no = true then 3 else 0)) ∧ Img w' B p g (if outB n no = true then L else splice L (no.toNat * 256) l) ∧ w.grownBy w' (some g) := by
  cases ho : outB n no with
  | true =>
    refine (Write_bad p no n A 256 c w (Blocks_img w h hL) (outB_iff.1 ho)).mono ?_
    rintro e w' ⟨rfl, rfl⟩
    exact ⟨rfl, by simpa using h, grown_below (Below.refl _ _) _⟩
  | false =>
    obtain ⟨h0, h1⟩ := outB_not.1 ho
    obtain ⟨k, rfl⟩ := Int.eq_ofNat_of_zero_le h0
    refine (Write_img k A c w h hL (by omega) hl).mono ?_
    rintro e w' ⟨rfl, hk, hi⟩
    exact ⟨rfl, by simpa using hi, grown_kept hk⟩

set_option maxRecDepth 100000 in
set_option maxHeartbeats 1600000 in
theorem blockWrite_bad {w : World} (pv : Value) (no kind : Int) {A : Option Addr} {m c : Nat} {l : List UInt8} (hB : Bytes8 w A m c l) (hs : sealE kind no l.length ≠ 0) :
    Calls Tryz.prog 11 #[pv, .int .i64 no, .int .i64 kind, .slice A m c] w fun e w' => ∃ v, e = .returned v ∧ ErrAt w' v no (sealE kind no l.length) ∧ Below w.heap.size w w' := by
  have S := Lib.hid (Seal_any kind no A m c l w hB)
  have AT := Lib.hid (fun x W => bat_any no x W)
  rw [hB.len] at hs ⊢
  have hne : (sealE kind no m == 0) = false := by simpa using hs
  clear hB
  generalize sealE kind no m = x at *
  generalize sealB kind no l = bb at *
  go_enter Tryz.func11, Tryz.ntmps11
  go_wp2_with (first
    | (go_at_call 29; (with_reducible refine (S.out).mono ?_); rintro e w1 ⟨A1, m1, c1, rfl, hB1, hb1⟩; clear hB1)
    | (go_at_call 31; (with_reducible refine (AT.out _ _).mono ?_); rintro e w4 ⟨v, rfl, hv, hb4⟩; have HV := Lib.hid hv; clear hv))
  go_ret
  exact ⟨v, rfl, HV.out, hb1.trans (hb4.mono hb1.size)⟩

/-! what image's Write may do: the error, and what it leaves, which bears what is laid behind -/
set_option maxRecDepth 100000 in
set_option maxHeartbeats 1600000 in
theorem blockWrite_of {w : World} (pv : Value) (no kind y : Int) {A : Option Addr} {m c : Nat} {l : List UInt8} (hB : Bytes8 w A m c l) (hs : sealE kind no l.length = 0) (r : Option Nat) (Q : World → Prop) (hQ : ∀ W W', Below W.heap.size W W' → Q W → Q W')
    (WR : ∀ W A c, Below w.heap.size w W → Bytes8 W A 256 c (sealB kind no l) → Calls Tryz.prog 30 #[pv, .int .i64 no, .slice A 256 c] W fun e w' => e = .returned (.int .i64 y) ∧ Q w' ∧ W.grownBy w' r) :
    Calls Tryz.prog 11 #[pv, .int .i64 no, .int .i64 kind, .slice A m c] w fun e w' => ∃ v, e = .returned v ∧ ErrAt w' v no y ∧ Q w' ∧ w.grownBy w' r := by
  have S : Hid (Calls Tryz.prog 29 #[.int .i64 kind, .int .i64 no, .slice A m c] w fun e w' => ∃ g, e = .returned (.tuple #[.slice (some ⟨g, 0, none⟩) 256 256, .int .i64 0]) ∧ Bytes8 w' (some ⟨g, 0, none⟩) 256 256 (sealB kind no l) ∧ Below w.heap.size w w') :=
    (Seal_good kind no A m c l w hB (by rw [← hB.len]; exact hs)).mono fun e w' ⟨g, h1, h2, h3⟩ => ⟨g, h1, h2.bytes (n := 256) (sealB_length hs) (by omega), h3⟩
  have W2 := Lib.hid WR
  have HQ := Lib.hid hQ
  have AT := Lib.hid (fun x W => bat_any no x W)
  clear hB hs WR hQ
  generalize sealB kind no l = bb at *
  go_enter Tryz.func11, Tryz.ntmps11
  go_wp2_with (first
    | (go_at_call 29; (with_reducible refine (S.out).mono ?_); rintro e w1 ⟨g1, rfl, hB1, hb1⟩; have HB1 := Lib.hid hB1; clear hB1)
    | (go_at_call 30; (with_reducible refine (W2.out _ _ _ hb1 HB1.out).mono ?_); rintro e w2 ⟨rfl, hq, hg⟩; have HQ2 := Lib.hid hq; have HG := Lib.hid hg; clear hq hg)
    | (go_at_call 31; (with_reducible refine (AT.out _ _).mono ?_); rintro e w4 ⟨v, rfl, hv, hb4⟩; have HV := Lib.hid hv; clear hv))
  go_ret
  exact ⟨v, rfl, HV.out, HQ.out _ _ hb4 HQ2.out, grown_trans (grown_trans (grown_below hb1 _) HG.out) (grown_below hb4 _)⟩

/-- of an image -/
theorem blockWrite_any {w : World} {B p g n : Nat} {L : List UInt8} (no kind : Int) (h : Img w B p g L) (hL : L.length = n * 256) {A : Option Addr} {m c : Nat} {l : List UInt8} (hB : Bytes8 w A m c l) :
    Calls Tryz.prog 11 #[.pointer (some ⟨p, 0, none⟩), .int .i64 no, .int .i64 kind, .slice A m c] w fun e w' => ∃ v, e = .returned v ∧ ErrAt w' v no (wrE11 n no kind l) ∧ Img w' B p g (wrL11 L n no kind l) ∧ w.grownBy w' (some g) := by
  by_cases hs : sealE kind no l.length = 0
  · have := blockWrite_of (.pointer (some ⟨p, 0, none⟩)) no kind (if outB n no = true then 3 else 0) hB hs (some g) (fun W => Img W B p g (if outB n no = true then L else splice L (no.toNat * 256) (sealB kind no l))) (fun W W' hb hi => hi.later hb) (fun W A c hW hb => imgWrite_any no A c (h.later hW) hL hb)
    rw [wrE11_ok hs]
    cases ho : outB n no with
    | true =>
      rw [wrL11_bad (by rw [wrE11_ok hs, ho]; decide)]
      simp only [ho] at this
      exact this
    | false =>
      rw [wrL11_good (by rw [wrE11_ok hs, ho]; rfl)]
      simp only [ho] at this
      exact this
  · rw [wrL11_bad (by rw [wrE11_seal hs]; exact hs), wrE11_seal hs]
    exact (blockWrite_bad _ no kind hB hs).mono fun e w' ⟨v, h1, h2, h3⟩ => ⟨v, h1, h2, h.later h3, grown_below h3 _⟩
/-! ### the reference's -/
end Go.Proofs.YtmjmhoihmnbjkaaGreat
