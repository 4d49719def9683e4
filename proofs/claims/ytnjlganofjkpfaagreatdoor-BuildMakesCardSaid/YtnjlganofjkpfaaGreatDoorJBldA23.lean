/-
  Joined: SealB, SealC, SealD, SealE.
-/
import Derived.Deep.RegionHeld3
import Derived.Laws.EntriesVeiled
import Derived.Test.YtnjlganofjkpfaaGreatDoorJBldA18
import Derived.LoopTactic
import Derived.OwnWalk
/-
  Layer 4's checks: the six closures, what hands them over, and Open.
-/
namespace Go.Proofs.YtnjlganofjkpfaaGreatDoor
open Go.RowKit
set_option linter.unusedVariables false
set_option linter.unusedSimpArgs false

/-- what the checks of a block answer, one by one -/
def chk (l : List UInt8) (k no : Int) : Nat → Int
  | 0 => if knownB k no = true then 0 else 1
  | 1 => if l.length = 256 then 0 else 7
  | 2 => if (leN (l.drop 252) : Int) = sumN l k then 0 else 4
  | 3 => if (leN (l.take 4) : Int) = no then 0 else 5
  | 4 => if (leN ((l.drop 4).take 2) : Int) = k then 0 else 6
  | _ => if leN ((l.drop 6).take 2) = 0 then 0 else 7

/-- the checks before j have found nothing -/
def Passed (l : List UInt8) (k no : Int) (j : Nat) : Prop := ∀ i, i < j → chk l k no i = 0

theorem Passed.succ {l : List UInt8} {k no : Int} {j : Nat} (h : Passed l k no j) (h0 : chk l k no j = 0) : Passed l k no (j + 1) := fun i hi => by
  by_cases he : i = j
  · subst he; exact h0
  · exact h i (by omega)
theorem Passed.zero (l : List UInt8) (k no : Int) : Passed l k no 0 := fun i hi => by omega

/-- the variables that the checks capture -/
structure Cap (w0 w : World) (pb pk pn : Nat) (A : Option Addr) (n c : Nat) (l : List UInt8) (k no : Int) : Prop where
  bel : Below w0.heap.size w0 w
  b : w.cell? ⟨pb, 0, none⟩ = some (.slice A n c)
  knd : w.cell? ⟨pk, 0, none⟩ = some (.int .i64 k)
  num : w.cell? ⟨pn, 0, none⟩ = some (.int .i64 no)
  B : Bytes8 w A n c l

theorem Cap.later {w0 w w' : World} {pb pk pn : Nat} {A : Option Addr} {n c : Nat} {l : List UInt8} {k no : Int} (h : Cap w0 w pb pk pn A n c l k no) (hb : Below w.heap.size w w') : Cap w0 w' pb pk pn A n c l k no :=
  ⟨h.bel.trans (hb.mono h.bel.size), (hb.cell (p := ⟨pb, 0, none⟩) (cell_lt h.b)).trans h.b, (hb.cell (p := ⟨pk, 0, none⟩) (cell_lt h.knd)).trans h.knd, (hb.cell (p := ⟨pn, 0, none⟩) (cell_lt h.num)).trans h.num, h.B.below hb⟩

section
variable {w0 w : World} {pb pk pn : Nat} {A : Option Addr} {n c : Nat} {l : List UInt8} {k no : Int}

end

end Go.Proofs.YtnjlganofjkpfaaGreatDoor

/-
  Layer 4's checks handed over, and Open.
-/
namespace Go.Proofs.YtnjlganofjkpfaaGreatDoor
open Go.RowKit
set_option linter.unusedVariables false
set_option linter.unusedSimpArgs false

end Go.Proofs.YtnjlganofjkpfaaGreatDoor

/-
  Layer 4's Seal.
-/
namespace Go.Proofs.YtnjlganofjkpfaaGreatDoor
open Go.RowKit
set_option linter.unusedVariables false
set_option linter.unusedSimpArgs false

set_option maxRecDepth 100000 in
theorem Seal_arg (k no : Int) (A : Option Addr) (n c : Nat) (w : World) (h : knownB k no = false) :
    Calls Tryz.prog 102 #[.int .i64 k, .int .i64 no, .slice A n c] w fun e w' => e = .returned (.tuple #[.slice none 0 0, .int .i64 1]) ∧ w = w' := by
  cases hk : kindB k with
  | false =>
    have IK := Lib.hid (fun W => isKind_any k W false hk)
    clear h hk
    go_enter Tryz.func102, Tryz.ntmps102
    go_wp2_with (go_at_call 107; refine (IK.out _).mono ?_; rintro e w' ⟨rfl, rfl⟩)
    go_ret2
    exact ⟨rfl, rfl⟩
  | true =>
    have IK := Lib.hid (fun W => isKind_any k W true hk)
    have IN := Lib.hid (fun W => isNumber_any no W false (by simpa [knownB, hk] using h))
    clear h hk
    go_enter Tryz.func102, Tryz.ntmps102
    go_wp2_with (first
      | (go_at_call 107; refine (IK.out _).mono ?_; rintro e w' ⟨rfl, rfl⟩)
      | (go_at_call 108; refine (IN.out _).mono ?_; rintro e w' ⟨rfl, rfl⟩))
    go_ret2
    exact ⟨rfl, rfl⟩

set_option maxRecDepth 100000 in
theorem Seal_range (k no : Int) (A : Option Addr) (n c : Nat) (w : World) (h : knownB k no = true) (hn : 244 < n) :
    Calls Tryz.prog 102 #[.int .i64 k, .int .i64 no, .slice A n c] w fun e w' => e = .returned (.tuple #[.slice none 0 0, .int .i64 2]) ∧ w = w' := by
  have hk : kindB k = true ∧ snumB no = true := by simpa [knownB] using h
  have IK := Lib.hid (fun W => isKind_any k W true hk.1)
  have IN := Lib.hid (fun W => isNumber_any no W true hk.2)
  clear h hk
  go_enter Tryz.func102, Tryz.ntmps102
  go_wp2_with (first
    | (go_at_call 107; refine (IK.out _).mono ?_; rintro e w' ⟨rfl, rfl⟩)
    | (go_at_call 108; refine (IN.out _).mono ?_; rintro e w' ⟨rfl, rfl⟩))
  go_ret2
  exact ⟨rfl, rfl⟩

/-- the first eight bytes -/
def headB (k no : Int) : List UInt8 := encN 4 no.toNat ++ (encN 2 k.toNat ++ [0, 0])
theorem headB_length (k no : Int) : (headB k no).length = 8 := by simp [headB, encN_length]

theorem splice_put {α : Type} (hd l : List α) (z : α) (m : Nat) (hm : hd.length + l.length ≤ m) : splice (splice (List.replicate m z) 0 hd) hd.length l = hd ++ (l ++ List.replicate (m - hd.length - l.length) z) := by
  simp only [splice, List.take_zero, List.nil_append, Nat.zero_add, List.drop_replicate, List.append_assoc]
  rw [List.take_left', List.drop_append]
  · simp
  · rfl

theorem body_splice {k no : Int} {l : List UInt8} (hl : l.length ≤ 244) : splice (splice (List.replicate 256 0) 0 (headB k no)) 8 l = bodyB k no l ++ [0, 0, 0, 0] := by
  have := splice_put (headB k no) l 0 256 (by rw [headB_length]; omega)
  rw [headB_length] at this
  rw [this]
  have e : (List.replicate (256 - 8 - l.length) (0 : UInt8)) = List.replicate (244 - l.length) 0 ++ [0, 0, 0, 0] := by
    rw [show 256 - 8 - l.length = (244 - l.length) + 4 by omega, ← List.replicate_append_replicate]
    rfl
  rw [e]
  simp [headB, bodyB, List.append_assoc]

theorem u8s_splice (a b : List UInt8) (i : Nat) : splice (u8s a) i (u8s b) = u8s (splice a i b) := by simp [splice, u8s]

theorem head_pack {k no : Int} (h : knownB k no = true) : packE [(4, no), (2, k), (2, 0)] = 0 ∧ packB [(4, no), (2, k), (2, 0)] = headB k no := by
  obtain ⟨⟨h1, h2⟩, h3, h4⟩ := knownB_iff.1 h
  have e : packE [(4, no), (2, k), (2, 0)] = 0 := by
    have f1 : fitsB no 4 = true := by simp [fitsB]; omega
    have f2 : fitsB k 2 = true := by simp [fitsB]; omega
    have f3 : fitsB 0 2 = true := by decide
    simp [packE, isW, f1, f2, f3]
  refine ⟨e, ?_⟩
  rw [packB, if_pos e]
  simp only [encs, headB, List.flatMap_cons, List.flatMap_nil, List.append_nil]
  rfl

set_option maxRecDepth 100000 in
set_option maxHeartbeats 1600000 in
theorem Seal_good (k no : Int) (A : Option Addr) (n c : Nat) (l : List UInt8) (w : World) (h : Bytes8 w A n c l) (hs : sealE k no n = 0) :
    Calls Tryz.prog 102 #[.int .i64 k, .int .i64 no, .slice A n c] w fun e w' => ∃ g, e = .returned (.tuple #[.slice (some ⟨g, 0, none⟩) 256 256, .int .i64 0]) ∧ Own8 w' w.heap.size g (sealB k no l) ∧ Below w.heap.size w w' := by
  obtain ⟨hkn, hn⟩ := sealE_zero hs
  have hk : kindB k = true ∧ snumB no = true := by simpa [knownB] using hkn
  have hb := knownB_iff.1 hkn
  have IK := Lib.hid (fun W => isKind_any k W true hk.1)
  have IN := Lib.hid (fun W => isNumber_any no W true hk.2)
  have PK : Hid (Calls Tryz.prog 88 #[.slice (some ⟨w.heap.size, 0, none⟩) 3 3] (w.alloc (.cells #[.int .i64 4, .int .i64 no, .int .i64 2, .int .i64 k, .int .i64 2, .int .i64 0] 156)) fun e w' =>
      ∃ A' c', e = .returned (.tuple #[.slice A' 8 c', .int .i64 0]) ∧ Bytes8 w' A' 8 c' (headB k no) ∧ Below w.heap.size w w') := by
    refine (Pack_any (some ⟨w.heap.size, 0, none⟩) 3 3 [(4, no), (2, k), (2, 0)] _ ⟨rfl, Nat.le_refl _, by omega, ?_, ?_⟩ (by omega)).mono ?_
    · exact Row.of_block (heap_alloc_new w _)
    · intro p hp
      simp only [List.mem_cons, List.not_mem_nil, or_false] at hp
      rcases hp with rfl | rfl | rfl <;> exact ⟨⟨by simp only; omega, by simp only; omega⟩, ⟨by simp only; omega, by simp only; omega⟩⟩
    · rintro e w' ⟨A', m, c', rfl, hB, hb⟩
      rw [(head_pack hkn).2] at hB
      rw [(head_pack hkn).1]
      obtain rfl : 8 = m := by have := hB.len; rw [headB_length] at this; exact this
      exact ⟨A', c', rfl, hB, ((Below.refl _ _).alloc (Nat.le_refl _) _).trans (hb.mono (by simp))⟩
  have hl := h.len
  have HB := Lib.hid h
  have HL := Lib.hid hl
  have HH := Lib.hid (headB_length k no)
  have HZ := Lib.hid (body_splice (k := k) (no := no) (l := l) (by omega))
  have HBL := Lib.hid (bodyB_length (k := k) (no := no) (l := l) (by omega))
  have HSE : Hid (sealB k no l = bodyB k no l ++ encN 4 (Crc.sum (bodyB k no l) ^^^ saltN k)) := sealB_eq (by rw [hl]; exact hs)
  obtain ⟨i0, hi0, hz0, hz1, hz2⟩ := info_parts info_u8
  clear h hl hs hk hkn hb
  go_enter Tryz.func102, Tryz.ntmps102
  go_wp2_with (first
    | (go_at_call 107; refine (IK.out _).mono ?_; rintro e w' ⟨rfl, rfl⟩)
    | (go_at_call 108; refine (IN.out _).mono ?_; rintro e w' ⟨rfl, rfl⟩)
    | (go_at_call 88; (with_reducible refine (PK.out).mono ?_); rintro e w1 ⟨A1, c1, rfl, hB1, hb1⟩; have HB1 := Lib.hid hB1; clear hB1)
    | (at_make; refine wpList_make_full w1 rfl (.const (.int .i64 256)) (.const (.int .i64 256)) _ rfl w1.heap.size 5 i0 _ 1 Tryz.underlying29 hi0 hz0 hz1 .i64 .i64 _ _ 256 rfl rfl rfl rfl (by rw [hz2]; omega) (by simp only [maxLen]; omega) (Nat.le_refl _) ?_; intro w2 hown2 hg2; have hb2 := below_of_grown hg2 (by simp); have HO2 := Lib.hid (own_zeros hown2 (Nat.le_refl _)); clear hown2)
    | (refine wpList_copy_splice rfl (.tmp 36) (.tmp 37) _ _ rfl 5 Tryz.underlying29 size_u8 _ _ _ _ _ _ rfl rfl w1.heap.size 0 (u8s (List.replicate 256 0)) 5 HO2.out.blk (u8s (headB k no)) (by rw [u8s_length, HH.out]; rfl) (fun hp => ⟨rfl, (HB1.out.row.below hb2).src hp⟩) (by rw [u8s_length, u8s_length, HH.out, List.length_replicate]; omega) (u8s_one _) w1.heap.size w1 hb2 (Nat.le_refl _) ?_; intro w3 HG3 hb3)
    | (refine wpList_copy_splice rfl (.tmp 40) (.tmp 41) _ _ rfl 5 Tryz.underlying29 size_u8 _ _ _ _ _ _ rfl rfl w1.heap.size 8 _ 5 HG3.out (u8s l) (by rw [u8s_length, HL.out]; exact (Nat.min_eq_left (by omega)).symm) (fun hp => ⟨rfl, (HB.out.row.below (hb1.trans (hb3.mono hb1.size))).src hp⟩) (by rw [u8s_splice, u8s_length, u8s_length, length_splice _ _ _ (by rw [HH.out, List.length_replicate]; omega), List.length_replicate, HL.out]; omega) (u8s_one _) w1.heap.size w1 hb3 (Nat.le_refl _) ?_; intro w4 HG4 hb4; have HG5 : Hid (Own8 w4 w1.heap.size w1.heap.size (bodyB k no l ++ [0, 0, 0, 0])) := (by refine ⟨Nat.le_refl _, ?_⟩; rw [← HZ.out, ← u8s_splice, ← u8s_splice]; exact HG4.out); clear HG4)
    | (go_at_call 110; refine (sum_any (some ⟨w1.heap.size, 0, none⟩) 256 256 (bodyB k no l ++ [0, 0, 0, 0]) k _ (HG5.out.bytes (by rw [List.length_append, HBL.out]; rfl) (by omega)) (by omega)).mono ?_; rintro e w5 ⟨rfl, hb5⟩)
    | (go_at_call 109; refine (Put_own (some ⟨w1.heap.size, 0, none⟩) 256 256 252 4 (sumN (bodyB k no l ++ [0, 0, 0, 0]) k) _ _ ((HG5.out.later hb5).bytes (by rw [List.length_append, HBL.out]; rfl) (by omega)) (by omega) (by decide) (by decide) (by decide) (by have := sumN_lt (bodyB k no l ++ [0, 0, 0, 0]) k; omega) (by have := sumN_lt (bodyB k no l ++ [0, 0, 0, 0]) k; simp [fitsB]; omega)).mono ?_; rintro e w6 ⟨rfl, hO6, hb6⟩))
  go_ret2
  have h1 := hb1.trans (hb4.mono hb1.size)
  have h2 := h1.trans (hb5.mono h1.size)
  refine ⟨_, rfl, ⟨h2.size, ?_⟩, h2.trans (hb6.mono h2.size)⟩
  have := hO6.blk
  rw [HSE.out]
  have e1 : (bodyB k no l ++ [0, 0, 0, 0]).take 252 = bodyB k no l := take_app HBL.out
  have e2 : (bodyB k no l ++ [0, 0, 0, 0]).drop (252 + (4 : Int).toNat) = [] := List.drop_eq_nil_of_le (by rw [List.length_append, HBL.out]; exact Nat.le_refl _)
  rw [e1, e2, sumN, e1, List.append_nil] at this
  exact this

theorem Seal_any (k no : Int) (A : Option Addr) (n c : Nat) (l : List UInt8) (w : World) (h : Bytes8 w A n c l) :
    Calls Tryz.prog 102 #[.int .i64 k, .int .i64 no, .slice A n c] w fun e w' => ∃ A' m c', e = .returned (.tuple #[.slice A' m c', .int .i64 (sealE k no n)]) ∧ Bytes8 w' A' m c' (sealB k no l) ∧ Below w.heap.size w w' := by
  have hl := h.len
  cases hk : knownB k no with
  | false =>
    have e : sealE k no n = 1 := by simp [sealE, hk]
    refine (Seal_arg k no A n c w hk).mono ?_
    rintro e' w' ⟨rfl, rfl⟩
    exact ⟨none, 0, 0, by rw [e], by rw [sealB, if_neg (by rw [hl, e]; omega)]; exact Bytes8.nil _, Below.refl _ _⟩
  | true =>
    by_cases hn : 244 < n
    · have e : sealE k no n = 2 := by simp [sealE, hk, hn]
      refine (Seal_range k no A n c w hk hn).mono ?_
      rintro e' w' ⟨rfl, rfl⟩
      exact ⟨none, 0, 0, by rw [e], by rw [sealB, if_neg (by rw [hl, e]; omega)]; exact Bytes8.nil _, Below.refl _ _⟩
    · have e : sealE k no n = 0 := by simp [sealE, hk, hn]
      refine (Seal_good k no A n c l w h e).mono ?_
      rintro e' w' ⟨g, rfl, hO, hb⟩
      exact ⟨_, 256, 256, by rw [e], hO.bytes (sealB_length (by rw [hl]; exact e)) (by omega), hb⟩

end Go.Proofs.YtnjlganofjkpfaaGreatDoor

/-
  Layer 4's Which.
-/
namespace Go.Proofs.YtnjlganofjkpfaaGreatDoor
open Go.RowKit
set_option linter.unusedVariables false
set_option linter.unusedSimpArgs false

end Go.Proofs.YtnjlganofjkpfaaGreatDoor
