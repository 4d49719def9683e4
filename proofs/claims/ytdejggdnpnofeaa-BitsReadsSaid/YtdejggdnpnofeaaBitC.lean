/-
  Layer 9: Read.
-/
import Derived.Test.YtdejggdnpnofeaaBitB
import Derived.Test.YtdejggdnpnofeaaCodeC
namespace Go.Proofs.Ytdejggdnpnofeaa
open Go.RowKit
set_option linter.unusedVariables false
set_option linter.unusedSimpArgs false

/-- what Get tells of the number of counts -/
theorem bits_get {l : List UInt8} (h : 4 ≤ l.length) : getE l 0 4 = 0 ∧ getN l 0 4 = (numB l : Int) := by
  have hr : roomE l.length 0 4 = 0 := by
    rcases roomE_cases l.length 0 4 with e | e | ⟨e, _⟩
    · simp [roomE, isW] at e; omega
    · simp [roomE, isW] at e; omega
    · exact e
  have hp : part l 0 4 = l.take 4 := rfl
  have hlt := leN_lt (l.take 4)
  rw [List.length_take, Nat.min_eq_left h] at hlt
  have e0 : getE l 0 4 = 0 := by
    rw [getE, if_pos hr, hp, if_neg (by omega)]
  exact ⟨e0, by rw [getN, if_pos e0, hp]; rfl⟩
theorem bits_get_short {l : List UInt8} (h : l.length < 4) : getE l 0 4 = 3 ∧ getN l 0 4 = 0 := by
  have hr : roomE l.length 0 4 = 3 := by simp [roomE, isW]; omega
  have e0 : getE l 0 4 = 3 := by rw [getE, if_neg (by rw [hr]; decide), hr]
  exact ⟨e0, by rw [getN, if_neg (by rw [e0]; decide)]⟩

theorem readBE9_cases (b : List UInt8) : (readBE9 b = 0 ∧ readBL9 b = readBits b ∧ b.length = 244 ∧ numB b ≤ 960 ∧ encBits (readBits b) = b) ∨ (readBE9 b = 7 ∧ readBL9 b = [] ∧ ¬ (b.length = 244 ∧ numB b ≤ 960 ∧ encBits (readBits b) = b)) := by
  by_cases h : b.length = 244 ∧ numB b ≤ 960 ∧ encBits (readBits b) = b
  · have e : readBE9 b = 0 := by rw [readBE9, if_pos h]
    exact .inl ⟨e, by rw [readBL9, if_pos e], h⟩
  · have e : readBE9 b = 7 := by rw [readBE9, if_neg h]
    exact .inr ⟨e, by rw [readBL9, if_neg (by rw [e]; decide)], h⟩

set_option maxHeartbeats 800000 in
/-- what ends early -/
theorem BRead_bad (A : Option Addr) (n c : Nat) (l : List UInt8) (w : World) (h : Bytes8 w A n c l) (hb : ¬ (n = 244 ∧ numB l ≤ 960)) :
    Calls Try.prog 11 #[.slice A n c] w fun e w' => e = .returned (.tuple #[.slice none 0 0, .int .i64 7]) ∧ Below w.heap.size w w' := by
  have hl := h.len
  have hn := h.le
  have G := Lib.hid (Get_any A n c l 0 4 w h (by omega))
  by_cases h4 : n < 4
  · obtain ⟨e1, e2⟩ := bits_get_short (l := l) (by omega)
    rw [e1, e2] at G
    clear h e1 e2 hb hl
    go_enter Try.func11, Try.ntmps11
    go_wp2_with (go_at_call 18; (with_reducible refine (G.out).mono ?_); rintro e w1 ⟨rfl, hb1⟩)
    go_ret2
    exact ⟨rfl, hb1⟩
  · obtain ⟨e1, e2⟩ := bits_get (l := l) (by omega)
    rw [e1, e2] at G
    clear h e1 e2 hl
    generalize numB l = N at *
    by_cases h9 : N ≤ 960
    · have hd : decide ((960 : Int) < (N : Int)) = false := by simp; omega
      have hne : ((n : Int) != 244) = true := by simp; omega
      clear hb
      go_enter Try.func11, Try.ntmps11
      go_wp2_with (go_at_call 18; (with_reducible refine (G.out).mono ?_); rintro e w1 ⟨rfl, hb1⟩)
      go_ret2
      exact ⟨rfl, hb1⟩
    · have hd : decide ((960 : Int) < (N : Int)) = true := by simp; omega
      clear hb
      go_enter Try.func11, Try.ntmps11
      go_wp2_with (go_at_call 18; (with_reducible refine (G.out).mono ?_); rintro e w1 ⟨rfl, hb1⟩)
      go_ret2
      exact ⟨rfl, hb1⟩

/-- the counts after k of them have been read -/
def bitsR (b : List UInt8) (N k : Nat) : List Int := ((List.range k).map fun i => (digB b i : Int)) ++ List.replicate (N - k) 0
theorem bitsR_length (b : List UInt8) {N k : Nat} (h : k ≤ N) : (bitsR b N k).length = N := by simp [bitsR]; omega
theorem bitsR_zero (b : List UInt8) (N : Nat) : bitsR b N 0 = List.replicate N 0 := by simp [bitsR]
theorem bitsR_all (b : List UInt8) : bitsR b (numB b) (numB b) = readBits b := by simp [bitsR, readBits]
theorem bitsR_step (b : List UInt8) {N k : Nat} (hk : k < N) : (bitsR b N k).set k (digB b k : Int) = bitsR b N (k + 1) := by
  have e1 : N - k = (N - (k + 1)) + 1 := by omega
  rw [bitsR, List.set_append_right _ _ (by simp), bitsR, List.range_succ, List.map_append, e1, List.replicate_succ]
  simp

theorem bit_and3 (n : Int) : bits .and .i64 n 3 = n % 4 := by
  have hm : (BitVec.ofInt 64 3).toNat = 2 ^ 2 - 1 := by decide
  have key : (BitVec.ofInt 64 n &&& BitVec.ofInt 64 3).toNat = (n % ((2 ^ 64 : Nat) : Int)).toNat % 2 ^ 2 := by
    rw [BitVec.toNat_and, BitVec.toNat_ofInt, hm, Nat.and_two_pow_sub_one_eq_mod]
  show IntKind.i64.wrap ((BitVec.ofInt 64 n &&& BitVec.ofInt 64 3).toNat : Nat) = n % 4
  rw [key, IntKind.wrap_i64]
  omega
theorem bit_dig (v j : Nat) (hv : v < 256) : bits .and .i64 (wrap64 ((v : Int) / 2 ^ (2 * j))) 3 = ((v / 4 ^ j % 4 : Nat) : Int) := by
  have e : ((v : Int) / 2 ^ (2 * j)) = ((v / 4 ^ j : Nat) : Int) := by
    rw [show (2 : Int) ^ (2 * j) = ((4 ^ j : Nat) : Int) by rw [Int.pow_mul]; norm_cast]
    exact (Int.natCast_ediv _ _).symm
  have hle : v / 4 ^ j ≤ v := Nat.div_le_self _ _
  rw [e, bit_and3]
  generalize v / 4 ^ j = y at *
  unfold wrap64
  omega

/-- what Read answers -/
def RdB (r : Bool) (l : List UInt8) (w' : World) (A' : Option Addr) (m c' : Nat) (x : Int) : Prop := (r = true → x = 0 ∧ Ints w' A' m c' (readBits l)) ∧ (r = false → x = 7 ∧ A' = none ∧ m = 0 ∧ c' = 0)

set_option maxRecDepth 100000 in
set_option maxHeartbeats 1600000 in
theorem BRead_good (A : Option Addr) (c : Nat) (l : List UInt8) (w : World) (h : Bytes8 w A 244 c l) (h9 : numB l ≤ 960) (r : Bool) (hr : decide (encBits (readBits l) = l) = r) :
    Calls Try.prog 11 #[.slice A 244 c] w fun e w' => ∃ A' m c' x, e = .returned (.tuple #[.slice A' m c', .int .i64 x]) ∧ Below w.heap.size w w' ∧ RdB r l w' A' m c' x := by
  have hl := h.len
  have G := Lib.hid (Get_any A 244 c l 0 4 w h (by omega))
  obtain ⟨e1, e2⟩ := bits_get (l := l) (by omega)
  rw [e1, e2] at G
  obtain ⟨i0, hi0, hz0, hz1, hz2⟩ := info_parts info_i64
  obtain ⟨b, off, rfl, hb, hcell⟩ := h.row.lit (by rw [u8s_length]; omega)
  have HC := Lib.hid hcell
  have HL := Lib.hid hl
  have HB := Lib.hid h
  have hcc := h.cap
  have HALL := Lib.hid (bitsR_all l)
  have HOK := Lib.hid (readBits_ok (b := l) h9)
  clear h hcell hl e1 e2
  generalize hN : numB l = N at *
  have HN := Lib.hid hN
  clear hN
  have hd : decide ((960 : Int) < (N : Int)) = false := by simp; omega
  go_enter Try.func11, Try.ntmps11
  go_wp2_with (first
    | (go_at_call 18; (with_reducible refine (G.out).mono ?_); rintro e w1 ⟨rfl, hb1⟩)
    | (at_make; refine wpList_make_full w1 rfl (.tmp 25) (.tmp 25) _ rfl w1.heap.size 3 i0 _ 1 Try.underlying22 hi0 hz0 hz1 .i64 .i64 _ _ N rfl rfl rfl rfl (by rw [hz2]; omega) (by simp only [maxLen]; omega) (Nat.le_refl _) ?_; intro w2 hown2 hg2; have hb2 := below_of_grown hg2 (by simp); have HO2 := Lib.hid (own_zerosI hown2 (Nat.le_refl _)); clear hown2))
  have HO3 : Hid (OwnI w2 w.heap.size w1.heap.size (bitsR l N 0)) := by rw [bitsR_zero]; exact ⟨hb1.size, HO2.out.blk⟩
  have hgl : w.heap.size ≤ w1.heap.size := hb1.size
  have hbel : Hid (Below w.heap.size w w2) := hb1.trans (hb2.mono hb1.size)
  clear HO2 hb1 hb2 hg2 hi0 hz0 hz1 hz2
  generalize w1.heap.size = g at *
  go_loopw [29] (fun i wr => ∃ k : Nat, k ≤ N ∧ i = .int .i64 k ∧ Hid (OwnI wr w.heap.size g (bitsR l N k)) ∧ Hid (Below w.heap.size w wr)) (fun i _ => N - (intOf i).toNat)
  case atStart => exact ⟨0, by omega, rfl, HO3, hbel⟩
  case round =>
    clear HO3 hbel
    obtain ⟨k, hk, rfl, hO, hbel⟩ := hrel
    by_cases hlt : k < N
    · have hbl := bitsR_length l hk
      have hc0 := hO.out.cell (j := k) (by omega)
      have hf0 := hO.out.free k
      have hj : 4 + k / 4 < l.length := by have := HL.out; omega
      have hc1 : wr.cell? ⟨b, off + (4 + k / 4), none⟩ = some (.int .u8 (l[4 + k / 4].toNat : Int)) := (hbel.out.cell (p := ⟨b, off + (4 + k / 4), none⟩) hb).trans (HC.out _ _ (u8s_at l _ hj))
      have HS := Lib.hid (bitsR_step l hlt)
      have HT := Lib.hid (hO.out.set k (digB l k : Int))
      generalize (bitsR l N k)[k] = old at *
      clear hbl
      have hv : bits .and .i64 (wrap64 ((l[4 + k / 4].toNat : Int) / 2 ^ (2 * (k % 4)))) 3 = (digB l k : Int) := by
        rw [bit_dig _ _ (UInt8.toNat_lt _), digB, List.getD_eq_getElem?_getD, List.getElem?_eq_getElem hj, Option.getD_some]
      generalize digB l k = d at *
      generalize l[4 + k / 4].toNat = v at *
      go_wp2
      go_roundw
      case rel => exact ⟨k + 1, by omega, by go_num, by have := HT.out; rw [HS.out] at this; exact this, hbel.out.setCell hgl _⟩
      case measure => simp [intOf]; omega
    · obtain rfl : k = N := by omega
      have hI := hO.out.ints (n := k) (bitsR_length l (Nat.le_refl k)) (by omega)
      have hR : bitsR l k k = readBits l := by exact HALL.out
      rw [hR] at hI
      have P := Lib.hid (BPut_good _ k k _ wr hI HOK.out)
      have hlb : l.length = 244 := HL.out
      have HI := Lib.hid hI
      have HE : Hid (∀ (W : World) (g' : Nat), Below wr.heap.size wr W → Own8 W wr.heap.size g' (encBits (readBits l)) → Calls Try.prog 19 #[.slice (some ⟨g', 0, none⟩) 244 244, .slice (some ⟨b, off, none⟩) 244 c] W fun e w' => e = .returned (.bool r) ∧ W = w') := fun W g' hW hO' =>
        bitEqual_any _ 244 244 _ _ 244 c l W (hO'.bytes (n := 244) (encBits_length _) (by omega)) (HB.out.below (hbel.out.trans (hW.mono hbel.out.size))) r hr
      clear hI hR hO
      cases r with
      | true =>
        go_wp2_with (first
          | (go_at_call 7; (with_reducible refine (P.out).mono ?_); rintro e w3 ⟨g', rfl, hO3, hb3⟩)
          | (go_at_call 19; (with_reducible refine (HE.out _ _ hb3 hO3).mono ?_); rintro e w4 ⟨rfl, rfl⟩))
        go_ret2
        exact ⟨_, _, _, _, rfl, hbel.out.trans (hb3.mono hbel.out.size), ⟨fun _ => ⟨rfl, HI.out.below hb3⟩, fun h => by cases h⟩⟩
      | false =>
        go_wp2_with (first
          | (go_at_call 7; (with_reducible refine (P.out).mono ?_); rintro e w3 ⟨g', rfl, hO3, hb3⟩)
          | (go_at_call 19; (with_reducible refine (HE.out _ _ hb3 hO3).mono ?_); rintro e w4 ⟨rfl, rfl⟩))
        go_ret2
        exact ⟨_, _, _, _, rfl, hbel.out.trans (hb3.mono hbel.out.size), ⟨(fun h => by cases h), fun _ => ⟨rfl, rfl, rfl, rfl⟩⟩⟩

theorem BRead_any (A : Option Addr) (n c : Nat) (l : List UInt8) (w : World) (h : Bytes8 w A n c l) :
    Calls Try.prog 11 #[.slice A n c] w fun e w' => ∃ A' m c', e = .returned (.tuple #[.slice A' m c', .int .i64 (readBE9 l)]) ∧ Ints w' A' m c' (readBL9 l) ∧ Below w.heap.size w w' := by
  have hl := h.len
  by_cases hb : n = 244 ∧ numB l ≤ 960
  · obtain ⟨rfl, h9⟩ := hb
    refine (BRead_good A c l w h h9 _ rfl).mono ?_
    rintro e w' ⟨A', m, c', x, rfl, hb, ht, hf⟩
    rcases readBE9_cases l with ⟨e0, e1, h1, h2, h3⟩ | ⟨e0, e1, h1⟩
    · obtain ⟨rfl, hI⟩ := ht (decide_eq_true h3)
      exact ⟨A', m, c', by rw [e0], by rw [e1]; exact hI, hb⟩
    · obtain ⟨rfl, rfl, rfl, rfl⟩ := hf (decide_eq_false fun h3 => h1 ⟨hl, h9, h3⟩)
      exact ⟨none, 0, 0, by rw [e0], by rw [e1]; exact Ints.nil _, hb⟩
  · refine (BRead_bad A n c l w h hb).mono ?_
    rintro e w' ⟨rfl, hbl⟩
    rcases readBE9_cases l with ⟨e0, e1, h1, h2, h3⟩ | ⟨e0, e1, h1⟩
    · exact absurd ⟨hl.symm.trans h1, h2⟩ hb
    · exact ⟨none, 0, 0, by rw [e0], by rw [e1]; exact Ints.nil _, hbl⟩

end Go.Proofs.Ytdejggdnpnofeaa
