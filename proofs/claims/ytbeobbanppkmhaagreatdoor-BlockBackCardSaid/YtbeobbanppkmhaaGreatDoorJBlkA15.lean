/-
  Joined: BitB, BitC, SealA, SealF.
-/
import Derived.Test.YtbeobbanppkmhaaGreatDoorJBlkA14
import Derived.Test.YtbeobbanppkmhaaGreatDoorJBlkA11
import Derived.Test.YtbeobbanppkmhaaGreatDoorJBlkA10
import Derived.WalkSpells
import Derived.WalkLawsBesides
import Derived.Test.YtbeobbanppkmhaaGreatDoorJBlkA06
import Derived.Test.YtbeobbanppkmhaaGreatDoorJBlkA08
import Derived.LoopTactic
import Derived.Test.YtbeobbanppkmhaaGreatDoorJBlkA02
/-
  Layer 9: Put.
-/
namespace Go.Proofs.YtbeobbanppkmhaaGreatDoor
open Go.RowKit
set_option linter.unusedVariables false
set_option linter.unusedSimpArgs false

/-- the bytes after k of them have been made -/
def bitsP (l : List Int) (k : Nat) : List UInt8 := encN 4 l.length ++ (((List.range k).map fun j => UInt8.ofNat (fourB l j)) ++ List.replicate (240 - k) 0)
theorem bitsP_length (l : List Int) {k : Nat} (hk : k ≤ 240) : (bitsP l k).length = 244 := by simp [bitsP, encN_length]; omega
theorem bitsP_all (l : List Int) : bitsP l 240 = encBits l := by simp [bitsP, encBits]
theorem bitsP_zero (l : List Int) : bitsP l 0 = encN 4 l.length ++ List.replicate 240 0 := by simp [bitsP]
theorem bitsP_step (l : List Int) {k : Nat} (hk : k < 240) : (bitsP l k).set (4 + k) (UInt8.ofNat (fourB l k)) = bitsP l (k + 1) := by
  have e1 : 240 - k = (240 - (k + 1)) + 1 := by omega
  rw [bitsP, List.set_append_right _ _ (by rw [encN_length]; omega), encN_length, show 4 + k - 4 = k by omega, List.set_append_right _ _ (by simp), bitsP, List.range_succ, List.map_append, e1, List.replicate_succ]
  simp

set_option maxRecDepth 100000 in
set_option maxHeartbeats 800000 in
theorem BPut_good (A : Option Addr) (n c : Nat) (l : List Int) (w : World) (h : Ints w A n c l) (hr : okB9 l = true) :
    Calls Tryz.prog 100 #[.slice A n c] w fun e w' => ∃ g, e = .returned (.tuple #[.slice (some ⟨g, 0, none⟩) 244 244, .int .i64 0]) ∧ Own8 w' w.heap.size g (encBits l) ∧ Below w.heap.size w w' := by
  have R := Lib.hid (right_any9 A n c l w h true hr)
  have hl := h.len
  have h9 := (okB9_iff.1 hr).1
  rw [hl] at h9
  obtain ⟨i0, hi0, hz0, hz1, hz2⟩ := info_parts info_u8
  have C : Hid (∀ w1 : World, ∀ g0, Own8 w1 w.heap.size g0 (List.replicate 244 0) → Calls Tryz.prog 107 #[.slice (some ⟨g0, 0, none⟩) 244 244, .int .i64 0, .int .i64 4, .int .i64 (n : Int)] w1 fun e w' => e = .returned (.tuple #[.slice (some ⟨w1.heap.size, 0, none⟩) 244 244, .int .i64 0]) ∧ Own8 w' w1.heap.size w1.heap.size (bitsP l 0) ∧ Below w1.heap.size w1 w') := fun w1 g0 hO =>
    (Put_own _ 244 244 0 4 n _ w1 (hO.bytes (n := 244) List.length_replicate (by omega)) (by omega) (by decide) (by decide) (by decide) (by omega) (by simp [fitsB]; omega)).mono fun e w' ⟨h1, h2, h3⟩ => by
      refine ⟨h1, ?_, h3⟩
      rw [bitsP_zero, hl]
      rw [List.take_zero, List.nil_append, List.drop_replicate] at h2
      exact h2
  have J : Hid (∀ (W : World) (k : Nat), Below w.heap.size w W → k < 240 → Calls Tryz.prog 135 #[.slice A n c, .int .i64 (4 * (k : Int))] W fun e w' => e = .returned (.int .u8 (fourB l k : Int)) ∧ W = w') := fun W k hW hk => by
    have := join_any9 A n c l (4 * k) W (h.below hW) hr (by omega)
    rw [fourP_four] at this
    exact this
  have HF : Hid (∀ k, fourB l k < 256) := fun k => fourB_lt hr k
  have HA : Hid (bitsP l 240 = encBits l) := bitsP_all l
  clear h hr hl
  go_enter Tryz.func100, Tryz.ntmps100
  go_wp2_with (first
    | (go_at_call 134; (with_reducible refine (R.out).mono ?_); rintro e w' ⟨rfl, rfl⟩)
    | (at_make; refine wpList_make_full w rfl (.const (.int .i64 244)) (.const (.int .i64 244)) _ rfl w.heap.size 5 i0 _ 1 Tryz.underlying22 hi0 hz0 hz1 .i64 .i64 _ _ 244 rfl rfl rfl rfl (by rw [hz2]; omega) (by simp only [maxLen]; omega) (Nat.le_refl _) ?_; intro w1 hown1 hg1; have hb1 := below_of_grown hg1 (by simp); have HO1 := Lib.hid (own_zeros hown1 (Nat.le_refl _)); clear hown1)
    | (go_at_call 107; (with_reducible refine (C.out _ _ HO1.out).mono ?_); rintro e w2 ⟨rfl, hO2, hb2⟩; have hg2 := hb1.size))
  have hbel : Below w.heap.size w w2 := hb1.trans (hb2.mono hg1.size)
  have hgl : w.heap.size ≤ w1.heap.size := hg1.size
  have HO2 : Hid (Own8 w2 w.heap.size w1.heap.size (bitsP l 0)) := hO2.down hgl
  have HB2 := Lib.hid hbel
  clear hO2 hbel hb1 hb2 hg1 HO1 hg2
  generalize w1.heap.size = g at *
  clear hi0 hz0 hz1 hz2
  go_loopw [23] (fun i wr => ∃ k : Nat, k ≤ 240 ∧ i = .int .i64 k ∧ Hid (Own8 wr w.heap.size g (bitsP l k)) ∧ Hid (Below w.heap.size w wr)) (fun i _ => 240 - (intOf i).toNat)
  case atStart => exact ⟨0, by omega, rfl, HO2, HB2⟩
  case round =>
    clear HO2 HB2
    obtain ⟨k, hk, rfl, hO, hbel⟩ := hrel
    by_cases hlt : k < 240
    · have hbl := bitsP_length l hk
      have hc0 := hO.out.cell (j := 4 + k) (by omega)
      have hf0 := hO.out.free (4 + k)
      have hfk : fourB l k ≤ 255 := by have := HF.out k; omega
      have HS := Lib.hid (bitsP_step l hlt)
      have HT := Lib.hid (hO.out.set (4 + k) (fourB l k) (by omega))
      have hJ := Lib.hid (J.out wr k hbel.out hlt)
      generalize (bitsP l k)[4 + k] = old at *
      clear hbl
      generalize fourB l k = v at *
      go_wp2_with (go_at_call 135; (with_reducible refine (hJ.out).mono ?_); rintro e w' ⟨rfl, rfl⟩)
      go_roundw
      case rel => exact ⟨k + 1, by omega, by go_num, by have := HT.out; rw [HS.out] at this; exact this, hbel.out.setCell hgl _⟩
      case measure => simp [intOf]; omega
    · obtain rfl : k = 240 := by omega
      go_wp2
      go_ret2
      exact ⟨g, rfl, by rw [← HA.out]; exact hO.out, hbel.out⟩

/-! ### the document's example -/
end Go.Proofs.YtbeobbanppkmhaaGreatDoor

/-
  Layer 9: Read.
-/
namespace Go.Proofs.YtbeobbanppkmhaaGreatDoor
open Go.RowKit
set_option linter.unusedVariables false
set_option linter.unusedSimpArgs false

/-- what Get tells of the number of counts -/
theorem bits_get {l : List UInt8} (h : 4 ≤ l.length) : getE l 0 4 = 0 ∧ getN l 0 4 = (numB l : Int) := by
  have hr : roomE l.length 0 4 = 0 := by
    rcases roomE_cases l.length 0 4 with e | e | ⟨e, _⟩
    · simp [roomE, isW] at e; omega
    · simp [roomE, isW] at e; omega
    · exact e
  have hp : part l 0 4 = l.take 4 := rfl
  have hlt := leN_lt (l.take 4)
  rw [List.length_take, Nat.min_eq_left h] at hlt
  have e0 : getE l 0 4 = 0 := by
    rw [getE, if_pos hr, hp, if_neg (by omega)]
  exact ⟨e0, by rw [getN, if_pos e0, hp]; rfl⟩
theorem bits_get_short {l : List UInt8} (h : l.length < 4) : getE l 0 4 = 3 ∧ getN l 0 4 = 0 := by
  have hr : roomE l.length 0 4 = 3 := by simp [roomE, isW]; omega
  have e0 : getE l 0 4 = 3 := by rw [getE, if_neg (by rw [hr]; decide), hr]
  exact ⟨e0, by rw [getN, if_neg (by rw [e0]; decide)]⟩

theorem readBE9_cases (b : List UInt8) : (readBE9 b = 0 ∧ readBL9 b = readBits b ∧ b.length = 244 ∧ numB b ≤ 960 ∧ encBits (readBits b) = b) ∨ (readBE9 b = 7 ∧ readBL9 b = [] ∧ ¬ (b.length = 244 ∧ numB b ≤ 960 ∧ encBits (readBits b) = b)) := by
  by_cases h : b.length = 244 ∧ numB b ≤ 960 ∧ encBits (readBits b) = b
  · have e : readBE9 b = 0 := by rw [readBE9, if_pos h]
    exact .inl ⟨e, by rw [readBL9, if_pos e], h⟩
  · have e : readBE9 b = 7 := by rw [readBE9, if_neg h]
    exact .inr ⟨e, by rw [readBL9, if_neg (by rw [e]; decide)], h⟩

set_option maxRecDepth 100000 in
set_option maxHeartbeats 800000 in
/-- what ends early -/
theorem BRead_bad (A : Option Addr) (n c : Nat) (l : List UInt8) (w : World) (h : Bytes8 w A n c l) (hb : ¬ (n = 244 ∧ numB l ≤ 960)) :
    Calls Tryz.prog 47 #[.slice A n c] w fun e w' => e = .returned (.tuple #[.slice none 0 0, .int .i64 7]) ∧ Below w.heap.size w w' := by
  have hl := h.len
  have hn := h.le
  have G := Lib.hid (Get_any A n c l 0 4 w h (by omega))
  by_cases h4 : n < 4
  · obtain ⟨e1, e2⟩ := bits_get_short (l := l) (by omega)
    rw [e1, e2] at G
    clear h e1 e2 hb hl
    go_enter Tryz.func47, Tryz.ntmps47
    go_wp2_with (go_at_call 82; (with_reducible refine (G.out).mono ?_); rintro e w1 ⟨rfl, hb1⟩)
    go_ret2
    exact ⟨rfl, hb1⟩
  · obtain ⟨e1, e2⟩ := bits_get (l := l) (by omega)
    rw [e1, e2] at G
    clear h e1 e2 hl
    generalize numB l = N at *
    by_cases h9 : N ≤ 960
    · have hd : decide ((960 : Int) < (N : Int)) = false := by simp; omega
      have hne : ((n : Int) != 244) = true := by simp; omega
      clear hb
      go_enter Tryz.func47, Tryz.ntmps47
      go_wp2_with (go_at_call 82; (with_reducible refine (G.out).mono ?_); rintro e w1 ⟨rfl, hb1⟩)
      go_ret2
      exact ⟨rfl, hb1⟩
    · have hd : decide ((960 : Int) < (N : Int)) = true := by simp; omega
      clear hb
      go_enter Tryz.func47, Tryz.ntmps47
      go_wp2_with (go_at_call 82; (with_reducible refine (G.out).mono ?_); rintro e w1 ⟨rfl, hb1⟩)
      go_ret2
      exact ⟨rfl, hb1⟩

/-- the counts after k of them have been read -/
def bitsR (b : List UInt8) (N k : Nat) : List Int := ((List.range k).map fun i => (digB b i : Int)) ++ List.replicate (N - k) 0
theorem bitsR_length (b : List UInt8) {N k : Nat} (h : k ≤ N) : (bitsR b N k).length = N := by simp [bitsR]; omega
theorem bitsR_zero (b : List UInt8) (N : Nat) : bitsR b N 0 = List.replicate N 0 := by simp [bitsR]
theorem bitsR_all (b : List UInt8) : bitsR b (numB b) (numB b) = readBits b := by simp [bitsR, readBits]
theorem bitsR_step (b : List UInt8) {N k : Nat} (hk : k < N) : (bitsR b N k).set k (digB b k : Int) = bitsR b N (k + 1) := by
  have e1 : N - k = (N - (k + 1)) + 1 := by omega
  rw [bitsR, List.set_append_right _ _ (by simp), bitsR, List.range_succ, List.map_append, e1, List.replicate_succ]
  simp

theorem bit_and3 (n : Int) : bits .and .i64 n 3 = n % 4 := by
  have hm : (BitVec.ofInt 64 3).toNat = 2 ^ 2 - 1 := by decide
  have key : (BitVec.ofInt 64 n &&& BitVec.ofInt 64 3).toNat = (n % ((2 ^ 64 : Nat) : Int)).toNat % 2 ^ 2 := by
    rw [BitVec.toNat_and, BitVec.toNat_ofInt, hm, Nat.and_two_pow_sub_one_eq_mod]
  show IntKind.i64.wrap ((BitVec.ofInt 64 n &&& BitVec.ofInt 64 3).toNat : Nat) = n % 4
  rw [key, IntKind.wrap_i64]
  omega
theorem bit_dig (v j : Nat) (hv : v < 256) : bits .and .i64 (wrap64 ((v : Int) / 2 ^ (2 * j))) 3 = ((v / 4 ^ j % 4 : Nat) : Int) := by
  have e : ((v : Int) / 2 ^ (2 * j)) = ((v / 4 ^ j : Nat) : Int) := by
    rw [show (2 : Int) ^ (2 * j) = ((4 ^ j : Nat) : Int) by rw [Int.pow_mul]; norm_cast]
    exact (Int.natCast_ediv _ _).symm
  have hle : v / 4 ^ j ≤ v := Nat.div_le_self _ _
  rw [e, bit_and3]
  generalize v / 4 ^ j = y at *
  unfold wrap64
  omega

/-- what Read answers -/
def RdB (r : Bool) (l : List UInt8) (w' : World) (A' : Option Addr) (m c' : Nat) (x : Int) : Prop := (r = true → x = 0 ∧ Ints w' A' m c' (readBits l)) ∧ (r = false → x = 7 ∧ A' = none ∧ m = 0 ∧ c' = 0)

set_option maxRecDepth 100000 in
set_option maxHeartbeats 1600000 in
theorem BRead_good (A : Option Addr) (c : Nat) (l : List UInt8) (w : World) (h : Bytes8 w A 244 c l) (h9 : numB l ≤ 960) (r : Bool) (hr : decide (encBits (readBits l) = l) = r) :
    Calls Tryz.prog 47 #[.slice A 244 c] w fun e w' => ∃ A' m c' x, e = .returned (.tuple #[.slice A' m c', .int .i64 x]) ∧ Below w.heap.size w w' ∧ RdB r l w' A' m c' x := by
  have hl := h.len
  have G := Lib.hid (Get_any A 244 c l 0 4 w h (by omega))
  obtain ⟨e1, e2⟩ := bits_get (l := l) (by omega)
  rw [e1, e2] at G
  obtain ⟨i0, hi0, hz0, hz1, hz2⟩ := info_parts info_i64
  obtain ⟨b, off, rfl, hb, hcell⟩ := h.row.lit (by rw [u8s_length]; omega)
  have HC := Lib.hid hcell
  have HL := Lib.hid hl
  have HB := Lib.hid h
  have hcc := h.cap
  have HALL := Lib.hid (bitsR_all l)
  have HOK := Lib.hid (readBits_ok (b := l) h9)
  clear h hcell hl e1 e2
  generalize hN : numB l = N at *
  have HN := Lib.hid hN
  clear hN
  have hd : decide ((960 : Int) < (N : Int)) = false := by simp; omega
  go_enter Tryz.func47, Tryz.ntmps47
  go_wp2_with (first
    | (go_at_call 82; (with_reducible refine (G.out).mono ?_); rintro e w1 ⟨rfl, hb1⟩)
    | (at_make; refine wpList_make_full w1 rfl (.tmp 25) (.tmp 25) _ rfl w1.heap.size 3 i0 _ 1 Tryz.underlying34 hi0 hz0 hz1 .i64 .i64 _ _ N rfl rfl rfl rfl (by rw [hz2]; omega) (by simp only [maxLen]; omega) (Nat.le_refl _) ?_; intro w2 hown2 hg2; have hb2 := below_of_grown hg2 (by simp); have HO2 := Lib.hid (own_zerosI hown2 (Nat.le_refl _)); clear hown2))
  have HO3 : Hid (OwnI w2 w.heap.size w1.heap.size (bitsR l N 0)) := by rw [bitsR_zero]; exact ⟨hb1.size, HO2.out.blk⟩
  have hgl : w.heap.size ≤ w1.heap.size := hb1.size
  have hbel : Hid (Below w.heap.size w w2) := hb1.trans (hb2.mono hb1.size)
  clear HO2 hb1 hb2 hg2 hi0 hz0 hz1 hz2
  generalize w1.heap.size = g at *
  go_loopw [29] (fun i wr => ∃ k : Nat, k ≤ N ∧ i = .int .i64 k ∧ Hid (OwnI wr w.heap.size g (bitsR l N k)) ∧ Hid (Below w.heap.size w wr)) (fun i _ => N - (intOf i).toNat)
  case atStart => exact ⟨0, by omega, rfl, HO3, hbel⟩
  case round =>
    clear HO3 hbel
    obtain ⟨k, hk, rfl, hO, hbel⟩ := hrel
    by_cases hlt : k < N
    · have hbl := bitsR_length l hk
      have hc0 := hO.out.cell (j := k) (by omega)
      have hf0 := hO.out.free k
      have hj : 4 + k / 4 < l.length := by have := HL.out; omega
      have hc1 : wr.cell? ⟨b, off + (4 + k / 4), none⟩ = some (.int .u8 (l[4 + k / 4].toNat : Int)) := (hbel.out.cell (p := ⟨b, off + (4 + k / 4), none⟩) hb).trans (HC.out _ _ (u8s_at l _ hj))
      have HS := Lib.hid (bitsR_step l hlt)
      have HT := Lib.hid (hO.out.set k (digB l k : Int))
      generalize (bitsR l N k)[k] = old at *
      clear hbl
      have hv : bits .and .i64 (wrap64 ((l[4 + k / 4].toNat : Int) / 2 ^ (2 * (k % 4)))) 3 = (digB l k : Int) := by
        rw [bit_dig _ _ (UInt8.toNat_lt _), digB, List.getD_eq_getElem?_getD, List.getElem?_eq_getElem hj, Option.getD_some]
      generalize digB l k = d at *
      generalize l[4 + k / 4].toNat = v at *
      go_wp2
      go_roundw
      case rel => exact ⟨k + 1, by omega, by go_num, by have := HT.out; rw [HS.out] at this; exact this, hbel.out.setCell hgl _⟩
      case measure => simp [intOf]; omega
    · obtain rfl : k = N := by omega
      have hI := hO.out.ints (n := k) (bitsR_length l (Nat.le_refl k)) (by omega)
      have hR : bitsR l k k = readBits l := by exact HALL.out
      rw [hR] at hI
      have P := Lib.hid (BPut_good _ k k _ wr hI HOK.out)
      have hlb : l.length = 244 := HL.out
      have HI := Lib.hid hI
      have HE : Hid (∀ (W : World) (g' : Nat), Below wr.heap.size wr W → Own8 W wr.heap.size g' (encBits (readBits l)) → Calls Tryz.prog 84 #[.slice (some ⟨g', 0, none⟩) 244 244, .slice (some ⟨b, off, none⟩) 244 c] W fun e w' => e = .returned (.bool r) ∧ W = w') := fun W g' hW hO' =>
        bitEqual_any _ 244 244 _ _ 244 c l W (hO'.bytes (n := 244) (encBits_length _) (by omega)) (HB.out.below (hbel.out.trans (hW.mono hbel.out.size))) r hr
      clear hI hR hO
      cases r with
      | true =>
        go_wp2_with (first
          | (go_at_call 100; (with_reducible refine (P.out).mono ?_); rintro e w3 ⟨g', rfl, hO3, hb3⟩)
          | (go_at_call 84; (with_reducible refine (HE.out _ _ hb3 hO3).mono ?_); rintro e w4 ⟨rfl, rfl⟩))
        go_ret2
        exact ⟨_, _, _, _, rfl, hbel.out.trans (hb3.mono hbel.out.size), ⟨fun _ => ⟨rfl, HI.out.below hb3⟩, fun h => by cases h⟩⟩
      | false =>
        go_wp2_with (first
          | (go_at_call 100; (with_reducible refine (P.out).mono ?_); rintro e w3 ⟨g', rfl, hO3, hb3⟩)
          | (go_at_call 84; (with_reducible refine (HE.out _ _ hb3 hO3).mono ?_); rintro e w4 ⟨rfl, rfl⟩))
        go_ret2
        exact ⟨_, _, _, _, rfl, hbel.out.trans (hb3.mono hbel.out.size), ⟨(fun h => by cases h), fun _ => ⟨rfl, rfl, rfl, rfl⟩⟩⟩

theorem BRead_any (A : Option Addr) (n c : Nat) (l : List UInt8) (w : World) (h : Bytes8 w A n c l) :
    Calls Tryz.prog 47 #[.slice A n c] w fun e w' => ∃ A' m c', e = .returned (.tuple #[.slice A' m c', .int .i64 (readBE9 l)]) ∧ Ints w' A' m c' (readBL9 l) ∧ Below w.heap.size w w' := by
  have hl := h.len
  by_cases hb : n = 244 ∧ numB l ≤ 960
  · obtain ⟨rfl, h9⟩ := hb
    refine (BRead_good A c l w h h9 _ rfl).mono ?_
    rintro e w' ⟨A', m, c', x, rfl, hb, ht, hf⟩
    rcases readBE9_cases l with ⟨e0, e1, h1, h2, h3⟩ | ⟨e0, e1, h1⟩
    · obtain ⟨rfl, hI⟩ := ht (decide_eq_true h3)
      exact ⟨A', m, c', by rw [e0], by rw [e1]; exact hI, hb⟩
    · obtain ⟨rfl, rfl, rfl, rfl⟩ := hf (decide_eq_false fun h3 => h1 ⟨hl, h9, h3⟩)
      exact ⟨none, 0, 0, by rw [e0], by rw [e1]; exact Ints.nil _, hb⟩
  · refine (BRead_bad A n c l w h hb).mono ?_
    rintro e w' ⟨rfl, hbl⟩
    rcases readBE9_cases l with ⟨e0, e1, h1, h2, h3⟩ | ⟨e0, e1, h1⟩
    · exact absurd ⟨hl.symm.trans h1, h2⟩ hb
    · exact ⟨none, 0, 0, by rw [e0], by rw [e1]; exact Ints.nil _, hbl⟩

end Go.Proofs.YtbeobbanppkmhaaGreatDoor

/-
  Layer 4's small functions: isKind, isNumber, Salt, unless, stored, sum; the reference's Salt and known.
-/
namespace Go.Proofs.YtbeobbanppkmhaaGreatDoor
open Go.RowKit
set_option linter.unusedVariables false
set_option linter.unusedSimpArgs false

set_option maxRecDepth 100000 in
theorem isKind_any (x : Int) (w : World) (r : Bool) (hr : kindB x = r) :
    Calls Tryz.prog 105 #[.int .i64 x] w fun e w' => e = .returned (.bool r) ∧ w = w' := by
  subst hr
  go_enter Tryz.func105, Tryz.ntmps105
  go_wp2
  all_goals go_ret
  all_goals refine ⟨ret_bool ?_, rfl⟩
  all_goals (simp [kindB]; try omega)

set_option maxRecDepth 100000 in
theorem isNumber_any (x : Int) (w : World) (r : Bool) (hr : snumB x = r) :
    Calls Tryz.prog 106 #[.int .i64 x] w fun e w' => e = .returned (.bool r) ∧ w = w' := by
  subst hr
  go_enter Tryz.func106, Tryz.ntmps106
  go_wp2
  all_goals go_ret
  all_goals refine ⟨ret_bool ?_, rfl⟩
  all_goals (simp [snumB]; try omega)

set_option maxRecDepth 100000 in
theorem unless_any (b : Bool) (x : Int) (y : Int) (hy : (if b = true then 0 else x) = y) (w : World) :
    Calls Tryz.prog 147 #[.bool b, .int .i64 x] w fun e w' => e = .returned (.int .i64 y) ∧ w = w' := by
  cases b
  case' true => obtain rfl : 0 = y := hy
  case' false => obtain rfl : x = y := hy
  all_goals try clear hy
  all_goals go_enter Tryz.func147, Tryz.ntmps147
  all_goals go_wp2
  all_goals go_ret
  all_goals exact ⟨rfl, rfl⟩

set_option maxRecDepth 100000 in
theorem Salt_any (x : Int) (w : World) :
    Calls Tryz.prog 139 #[.int .i64 x] w fun e w' => e = .returned (.int .i64 (saltN x : Int)) ∧ w = w' := by
  by_cases h1 : x = 1
  · subst h1
    go_enter Tryz.func139, Tryz.ntmps139
    go_wp2
    go_ret
    exact ⟨rfl, rfl⟩
  by_cases h2 : x = 2
  · subst h2
    go_enter Tryz.func139, Tryz.ntmps139
    go_wp2
    go_ret
    exact ⟨rfl, rfl⟩
  by_cases h3 : x = 3
  · subst h3
    go_enter Tryz.func139, Tryz.ntmps139
    go_wp2
    go_ret
    exact ⟨rfl, rfl⟩
  by_cases h4 : x = 4
  · subst h4
    go_enter Tryz.func139, Tryz.ntmps139
    go_wp2
    go_ret
    exact ⟨rfl, rfl⟩
  · have q1 : (x == 1) = false := by simpa using h1
    have q2 : (x == 2) = false := by simpa using h2
    have q3 : (x == 3) = false := by simpa using h3
    have q4 : (x == 4) = false := by simpa using h4
    have E : Hid (saltN x = 0) := by simp [Hid, saltN, h1, h2, h3, h4]
    clear h1 h2 h3 h4
    go_enter Tryz.func139, Tryz.ntmps139
    go_wp2
    go_ret
    exact ⟨ret_int (by rw [E.out]; rfl), rfl⟩

set_option maxRecDepth 100000 in
theorem refKnown_any (k no : Int) (w : World) (r : Bool) (hr : knownB k no = r) :
    Calls Tryz.prog 112 #[.int .i64 k, .int .i64 no] w fun e w' => e = .returned (.bool r) ∧ w = w' := by
  subst hr
  go_enter Tryz.func112, Tryz.ntmps112
  go_wp2
  all_goals go_ret
  all_goals refine ⟨ret_bool ?_, rfl⟩
  all_goals (rw [Bool.eq_iff_iff]; simp [knownB, kindB, snumB]; try omega)

set_option maxRecDepth 100000 in
theorem refSalt_any (x : Int) (w : World) :
    Calls Tryz.prog 115 #[.int .i64 x] w fun e w' => e = .returned (.int .i64 (saltN x : Int)) ∧ Below w.heap.size w w' := by
  by_cases h0 : x < 0
  · have E : Hid (saltN x = 0) := by simp only [Hid, saltN]; rw [if_neg (by omega), if_neg (by omega), if_neg (by omega), if_neg (by omega)]
    go_enter Tryz.func115, Tryz.ntmps115
    go_wp2
    go_ret
    exact ⟨ret_int (by rw [E.out]; rfl), (Below.refl _ _).alloc (Nat.le_refl _) _⟩
  by_cases h5 : 4 < x
  · have E : Hid (saltN x = 0) := by simp only [Hid, saltN]; rw [if_neg (by omega), if_neg (by omega), if_neg (by omega), if_neg (by omega)]
    go_enter Tryz.func115, Tryz.ntmps115
    go_wp2
    go_ret
    exact ⟨ret_int (by rw [E.out]; rfl), (Below.refl _ _).alloc (Nat.le_refl _) _⟩
  rcases (show x = 0 ∨ x = 1 ∨ x = 2 ∨ x = 3 ∨ x = 4 by omega) with rfl | rfl | rfl | rfl | rfl
  all_goals clear h0 h5
  all_goals go_enter Tryz.func115, Tryz.ntmps115
  all_goals go_wp2
  all_goals go_ret
  all_goals exact ⟨rfl, (Below.refl _ _).alloc (Nat.le_refl _) _⟩

theorem getE_small (l : List UInt8) (i wd : Int) : 0 ≤ getE l i wd ∧ getE l i wd ≤ 3 := by
  unfold getE
  rcases roomE_cases l.length i wd with h | h | ⟨h, _⟩ <;> rw [h] <;> simp <;> split <;> omega

set_option maxRecDepth 100000 in
set_option maxHeartbeats 400000 in
theorem stored_any (A : Option Addr) (n c : Nat) (l : List UInt8) (i wd : Int) (w : World) (h : Bytes8 w A n c l) (hi : -9223372036854775808 ≤ i ∧ i ≤ 9223372036854775807) :
    Calls Tryz.prog 150 #[.slice A n c, .int .i64 i, .int .i64 wd] w fun e w' => e = .returned (.int .i64 (storedN l i wd)) ∧ Below w.heap.size w w' := by
  have G := Lib.hid (Get_any A n c l i wd w h hi)
  have hx := getE_small l i wd
  have E : Hid (storedN l i wd = if getE l i wd = 0 then getN l i wd else -1) := rfl
  clear h hi
  generalize getE l i wd = x at *
  generalize getN l i wd = y at *
  obtain ⟨hx0, hx3⟩ := hx
  by_cases h0 : x = 0
  · subst h0
    go_enter Tryz.func150, Tryz.ntmps150
    go_wp2_with (go_at_call 82; refine (G.out).mono ?_; rintro e w' ⟨rfl, hb⟩)
    go_ret
    exact ⟨ret_int (by rw [E.out]; rfl), hb⟩
  · have q : (x != 0) = true := by simpa using h0
    have E2 : Hid (storedN l i wd = -1) := by have := E.out; rw [if_neg h0] at this; exact this
    clear E h0
    go_enter Tryz.func150, Tryz.ntmps150
    go_wp2_with (go_at_call 82; refine (G.out).mono ?_; rintro e w' ⟨rfl, hb⟩)
    go_ret
    exact ⟨ret_int (by rw [E2.out]), hb⟩

theorem xor_salt (a b : Nat) (ha : a < 4294967296) (hb : b < 4294967296) : bits .xor .i64 (a : Int) (b : Int) = ((a ^^^ b : Nat) : Int) := i64_xor_nat a b (by omega) (by omega)

set_option maxRecDepth 100000 in
set_option maxHeartbeats 400000 in
theorem sum_any (A : Option Addr) (n c : Nat) (l : List UInt8) (k : Int) (w : World) (h : Bytes8 w A n c l) (hn : 252 ≤ n) :
    Calls Tryz.prog 108 #[.slice A n c, .int .i64 k] w fun e w' => e = .returned (.int .i64 (sumN l k : Int)) ∧ Below w.heap.size w w' := by
  have hc := h.cap
  have hm := h.most
  have hB : Bytes8 w A 252 c (l.take 252) := ⟨by rw [List.length_take, h.len]; omega, by omega, hm, by have := h.row.take 252; rwa [u8s_take] at this⟩
  have S := Lib.hid (Sum_one A 252 c (l.take 252) w hB)
  have T := Lib.hid (fun W => Salt_any k W)
  have hx := xor_salt (Crc.sum (l.take 252)) (saltN k) (Crc.sum_lt _) (saltN_lt k)
  have E : Hid (Crc.sum (l.take 252) ^^^ saltN k = sumN l k) := rfl
  clear hB
  generalize Crc.sum (l.take 252) = a at *
  generalize saltN k = b at *
  generalize a ^^^ b = z at *
  clear h
  go_enter Tryz.func108, Tryz.ntmps108
  go_wp2_with (first
    | (go_at_call 138; (with_reducible refine (S.out).mono ?_); rintro e w' ⟨rfl, hb⟩)
    | (go_at_call 139; refine (T.out _).mono ?_; rintro e w2 ⟨rfl, rfl⟩))
  go_ret
  exact ⟨ret_int (by rw [E.out]), hb⟩

end Go.Proofs.YtbeobbanppkmhaaGreatDoor

/-
  The reference's Seal.
-/
namespace Go.Proofs.YtbeobbanppkmhaaGreatDoor
open Go.RowKit
set_option linter.unusedVariables false
set_option linter.unusedSimpArgs false

set_option maxRecDepth 100000 in
theorem refSeal_bad (k no : Int) (A : Option Addr) (n c : Nat) (w : World) (r : Int) (h : sealE k no n = r) (hr : r ≠ 0) :
    Calls Tryz.prog 55 #[.int .i64 k, .int .i64 no, .slice A n c] w fun e w' => e = .returned (.tuple #[.slice none 0 0, .int .i64 r]) ∧ w = w' := by
  cases hk : knownB k no with
  | false =>
    obtain rfl : 1 = r := by rw [← h]; simp [sealE, hk]
    have K := Lib.hid (fun W => refKnown_any k no W false hk)
    clear h hr hk
    go_enter Tryz.func55, Tryz.ntmps55
    go_wp2_with (go_at_call 112; refine (K.out _).mono ?_; rintro e w' ⟨rfl, rfl⟩)
    go_ret2
    exact ⟨rfl, rfl⟩
  | true =>
    by_cases hn : 244 < n
    · obtain rfl : 2 = r := by rw [← h]; simp [sealE, hk, hn]
      have K := Lib.hid (fun W => refKnown_any k no W true hk)
      clear h hr hk
      go_enter Tryz.func55, Tryz.ntmps55
      go_wp2_with (go_at_call 112; refine (K.out _).mono ?_; rintro e w' ⟨rfl, rfl⟩)
      go_ret2
      exact ⟨rfl, rfl⟩
    · exact absurd (by rw [← h]; simp [sealE, hk, hn]) hr

/-- what stands behind j zeros -/
def partB (N K : Nat) (l : List UInt8) (j : Nat) : List UInt8 := encN 4 N ++ (encN 2 K ++ ([0, 0] ++ (l ++ List.replicate j 0)))
theorem partB_succ (N K : Nat) (l : List UInt8) (j : Nat) : partB N K l (j + 1) = partB N K l j ++ [0] := by
  simp only [partB, List.append_assoc]
  rw [List.replicate_succ']
theorem partB_zero (N K : Nat) (l : List UInt8) : u8s (encN 4 N) ++ u8s (encN 2 K) ++ [.int .u8 0, .int .u8 0] ++ u8s l = u8s (partB N K l 0) := by simp [partB, u8s]

def lenVS : Value → Nat
  | .slice _ n _ => n
  | _ => 0

set_option maxRecDepth 100000 in
set_option maxHeartbeats 1600000 in
theorem refSeal_good (k no : Int) (A : Option Addr) (n c : Nat) (l : List UInt8) (w : World) (h : Bytes8 w A n c l) (hs : sealE k no n = 0) :
    Calls Tryz.prog 55 #[.int .i64 k, .int .i64 no, .slice A n c] w fun e w' => ∃ A' m c', e = .returned (.tuple #[.slice A' m c', .int .i64 0]) ∧ Bytes8 w' A' m c' (sealB k no l) ∧ Below w.heap.size w w' := by
  obtain ⟨hkn, hn⟩ := sealE_zero hs
  have hb := knownB_iff.1 hkn
  have KN := Lib.hid (fun W => refKnown_any k no W true hkn)
  have hl := h.len
  have HSE : Hid (sealB k no l = bodyB k no l ++ encN 4 (Crc.sum (bodyB k no l) ^^^ saltN k)) := sealB_eq (by rw [hl]; exact hs)
  obtain ⟨N, rfl⟩ := Int.eq_ofNat_of_zero_le hb.2.1
  obtain ⟨K, rfl⟩ := Int.eq_ofNat_of_zero_le (show 0 ≤ k by omega)
  have HBY : Hid (∀ x m : Nat, x < 9223372036854775808 → m ≤ 8 → ∀ W, Calls Tryz.prog 113 #[.int .i64 x, .int .i64 m] W fun e w' => ∃ A' c', e = .returned (.slice A' m c') ∧ w'.ownsRow W.heap.size 5 1 (.slice A' m c') m (u8s (encN m x)) ∧ Bytes8 w' A' m c' (encN m x) ∧ Below W.heap.size W w') :=
    fun x m hx hm W => (Bytes_any x m W hx hm).mono fun e w' ⟨v', he, ho, hb⟩ => by
      obtain ⟨A', c', rfl, hB⟩ := Bytes8.of_own ho
      exact ⟨A', c', he, ho, hB, hb⟩
  have BY1 : Hid (∀ W, Calls Tryz.prog 113 #[.int .i64 N, .int .i64 4] W fun e w' => ∃ A' c', e = .returned (.slice A' 4 c') ∧ w'.ownsRow W.heap.size 5 1 (.slice A' 4 c') 4 (u8s (encN 4 N)) ∧ Bytes8 w' A' 4 c' (encN 4 N) ∧ Below W.heap.size W w') := HBY.out N 4 (by omega) (by omega)
  have BY2 : Hid (∀ W, Calls Tryz.prog 113 #[.int .i64 K, .int .i64 2] W fun e w' => ∃ A' c', e = .returned (.slice A' 2 c') ∧ w'.ownsRow W.heap.size 5 1 (.slice A' 2 c') 2 (u8s (encN 2 K)) ∧ Bytes8 w' A' 2 c' (encN 2 K) ∧ Below W.heap.size W w') := HBY.out K 2 (by omega) (by omega)
  have HB := Lib.hid h
  have HL := Lib.hid hl
  have HP0 := Lib.hid (partB_zero N K l)
  have HPE : Hid (partB N K l (244 - n) = bodyB (K : Int) (N : Int) l) := by rw [Hid, partB, bodyB, hl]; simp
  clear h hl hs hkn hb
  go_enter Tryz.func55, Tryz.ntmps55
  go_wp2_with (first
    | (go_at_call 112; refine (KN.out _).mono ?_; rintro e w' ⟨rfl, rfl⟩)
    | (go_at_call 113; (with_reducible refine (BY1.out _).mono ?_); rintro e w1 ⟨A1, c1, rfl, ho1, hB1, hb1⟩; have HO1 := Lib.hid ho1; clear ho1 hB1)
    | (go_at_call 113; (with_reducible refine (BY2.out _).mono ?_); rintro e w2 ⟨A2, c2, rfl, ho2, hB2, hb2⟩; have HB2 := Lib.hid hB2; have HO2 := own_below HO1 hb2; have hw2 := hb1.trans (hb2.mono hb1.size); clear ho2 hB2)
    | (at_builtin; refine wpList_append_row _ rfl (.tmp 18) (.tmp 20) 22 rfl w.heap.size 5 _ 1 Tryz.underlying22 info_u8 rfl _ _ _ rfl HO2 hw2.size _ (u8s (encN 2 K)) 2 c2 rfl (by rw [u8s_length, encN_length]) HB2.out.row (u8s_one _) (by omega) (by omega) ?_; intro v3 w3 HO3 hs3 hb3; have hw3 := hw2.trans hb3)
    | (at_builtin; refine wpList_append_new _ rfl (.tmp 22) (.tmp 23) 22 rfl w.heap.size 5 5 (.int .u8 0) 1 Tryz.underlying22 info_u8 rfl v3 6 _ rfl HO3 hs3 [.int .u8 0, .int .u8 0] 2 2 rfl rfl (by simp [Value.oneCell']) (by omega) (by omega) ?_; intro v4 w4 HO4 hs4 hb4; have hw4 := hw3.trans hb4)
    | (at_builtin; refine wpList_append_row _ rfl (.tmp 25) (.tmp 26) 22 rfl w.heap.size 5 _ 1 Tryz.underlying22 info_u8 rfl _ _ _ rfl HO4 hs4 A (u8s l) n c rfl (by rw [u8s_length, HL.out]) (HB.out.row.below hw4) (u8s_one _) (by omega) (by omega) ?_; intro v5 w5 HO5 hs5 hb5; have hw5 := hw4.trans hb5))
  have HO6 : Hid (w5.ownsRow w.heap.size 5 1 v5 (8 + n + 0) (u8s (partB N K l 0))) := by
    have := HO5.out
    rw [HP0.out] at this
    exact this
  have HBE : Hid (∀ W A' m' c', Bytes8 W A' m' c' (bodyB (K : Int) (N : Int) l) → Calls Tryz.prog 114 #[.slice A' m' c'] W fun e w' => e = .returned (.int .i64 (Crc.sum (bodyB (K : Int) (N : Int) l) : Int)) ∧ W = w') := fun W A' m' c' h => refSum_any A' m' c' _ W h
  have HSA := Lib.hid (fun W => refSalt_any (K : Int) W)
  have hx := xor_salt (Crc.sum (bodyB (K : Int) (N : Int) l)) (saltN (K : Int)) (Crc.sum_lt _) (saltN_lt _)
  have hxl := Crc.xor_lt (Crc.sum_lt (bodyB (K : Int) (N : Int) l)) (saltN_lt (K : Int))
  generalize Crc.sum (bodyB (K : Int) (N : Int) l) = x at *
  generalize saltN (K : Int) = y at *
  generalize x ^^^ y = z at *
  have BY3 : Hid (∀ W, Calls Tryz.prog 113 #[.int .i64 z, .int .i64 4] W fun e w' => ∃ A' c', e = .returned (.slice A' 4 c') ∧ w'.ownsRow W.heap.size 5 1 (.slice A' 4 c') 4 (u8s (encN 4 z)) ∧ Bytes8 w' A' 4 c' (encN 4 z) ∧ Below W.heap.size W w') := HBY.out z 4 (by omega) (by omega)
  clear HO1 HO2 HO3 HO4 HO5 HB2 BY1 BY2 HBY HP0 KN hb1 hb2 hb3 hb4 hb5 hw2 hw3 hw4 hs3 hs4
  go_loopw [8] (fun v wr => ∃ j : Nat, 8 + n + j ≤ 252 ∧ Hid (wr.ownsRow w.heap.size 5 1 v (8 + n + j) (u8s (partB N K l j))) ∧ w.heap.size ≤ wr.heap.size ∧ Below w.heap.size w wr) (fun v _ => 252 - lenVS v)
  case atStart => exact ⟨0, by omega, HO6, hs5, hw5⟩
  case round =>
    clear HO6 hs5 hw5
    obtain ⟨j, hj, hown, hs, hbel⟩ := hrel
    obtain ⟨A8, c8, rfl, hc8, hm8⟩ := ownsRow_form hown.out
    by_cases hlt : 8 + n + j < 252
    · go_wp2_with (at_builtin; refine wpList_append_new _ rfl (.tmp 31) (.tmp 32) 22 rfl w.heap.size 5 5 (.int .u8 0) 1 Tryz.underlying22 info_u8 rfl _ (8 + n + j) _ rfl hown hs [.int .u8 0] 1 1 rfl rfl (by simp [Value.oneCell']) (by omega) (by omega) ?_; intro v9 w9 HO9 hs9 hb9)
      have HO10 : Hid (w9.ownsRow w.heap.size 5 1 v9 (8 + n + (j + 1)) (u8s (partB N K l (j + 1)))) := by
        have := HO9.out
        rw [partB_succ, u8s_append]
        exact this
      obtain ⟨A9, c9, rfl, hc9, hm9⟩ := ownsRow_form HO10.out
      go_roundw
      case rel => exact ⟨j + 1, by omega, HO10, hs9, hbel.trans hb9⟩
      case measure => simp [lenVS]; omega
    · obtain rfl : j = 244 - n := by omega
      rw [HPE.out] at hown
      have hB8 : Bytes8 wr A8 (8 + n + (244 - n)) c8 (bodyB (K : Int) (N : Int) l) := by
        obtain ⟨A', c', e, h⟩ := Bytes8.of_own hown.out
        cases e
        exact h
      have HB8 := Lib.hid hB8
      clear hB8
      go_wp2_with (first
        | (go_at_call 114; (with_reducible refine (HBE.out _ _ _ _ HB8.out).mono ?_); rintro e w' ⟨rfl, rfl⟩)
        | (go_at_call 115; (with_reducible refine (HSA.out _).mono ?_); rintro e w10 ⟨rfl, hb10⟩; have hown10 := own_below hown hb10)
        | (go_at_call 113; (with_reducible refine (BY3.out _).mono ?_); rintro e w11 ⟨A11, c11, rfl, ho11, hB11, hb11⟩; have HB11 := Lib.hid hB11; have hown11 := own_below hown10 hb11; have hb1011 := hb10.trans (hb11.mono hb10.size); clear ho11 hB11)
        | (at_builtin; refine wpList_append_row _ rfl (.tmp 34) (.tmp 40) 22 rfl w.heap.size 5 _ 1 Tryz.underlying22 info_u8 rfl _ _ _ rfl hown11 (Nat.le_trans hs hb1011.size) _ (u8s (encN 4 z)) 4 c11 rfl (by rw [u8s_length, encN_length]) HB11.out.row (u8s_one _) (by omega) (by omega) ?_; intro v12 w12 HO12 hs12 hb12))
      have HO13 : Hid (w12.ownsRow w.heap.size 5 1 v12 (8 + n + (244 - n) + 4) (u8s (sealB (K : Int) (N : Int) l))) := by
        have := HO12.out
        rw [HSE.out, u8s_append]
        exact this
      obtain ⟨A13, c13, rfl, hB13⟩ := Bytes8.of_own HO13.out
      go_ret2
      exact ⟨A13, _, c13, rfl, hB13, hbel.trans ((hb1011.mono hs).trans hb12)⟩

theorem refSeal_any (k no : Int) (A : Option Addr) (n c : Nat) (l : List UInt8) (w : World) (h : Bytes8 w A n c l) :
    Calls Tryz.prog 55 #[.int .i64 k, .int .i64 no, .slice A n c] w fun e w' => ∃ A' m c', e = .returned (.tuple #[.slice A' m c', .int .i64 (sealE k no n)]) ∧ Bytes8 w' A' m c' (sealB k no l) ∧ Below w.heap.size w w' := by
  by_cases e : sealE k no n = 0
  · rw [e]
    exact refSeal_good k no A n c l w h e
  · refine (refSeal_bad k no A n c w _ rfl e).mono ?_
    rintro e' w' ⟨rfl, rfl⟩
    exact ⟨none, 0, 0, rfl, by rw [sealB, if_neg (by rw [h.len]; exact e)]; exact Bytes8.nil _, Below.refl _ _⟩

end Go.Proofs.YtbeobbanppkmhaaGreatDoor
