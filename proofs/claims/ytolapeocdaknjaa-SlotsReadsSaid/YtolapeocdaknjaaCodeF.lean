/-
  Layer 1's Put.
-/
import Derived.Test.YtolapeocdaknjaaCodeE
import Derived.Deep.RegionLaw
namespace Go.Proofs.Ytolapeocdaknjaa
open Go.RowKit
set_option linter.unusedVariables false
set_option linter.unusedSimpArgs false

def putE (l : List UInt8) (i wd n : Int) : Int := if roomE l.length i wd = 0 then (if fitsB n wd = true then 0 else 2) else roomE l.length i wd
def putB (l : List UInt8) (i wd n : Int) : List UInt8 := if putE l i wd n = 0 then l.take i.toNat ++ (encN wd.toNat n.toNat ++ l.drop (i.toNat + wd.toNat)) else []


set_option maxHeartbeats 400000 in
theorem Put_bad (A : Option Addr) (n c : Nat) (i wd x : Int) (w : World) (hn : n ≤ 9223372036854775807) (hi : -9223372036854775808 ≤ i ∧ i ≤ 9223372036854775807) (r : Int) (hr : roomE n i wd = r) (h13 : r = 1 ∨ r = 3) :
    Calls Try.prog 12 #[.slice A n c, .int .i64 i, .int .i64 wd, .int .i64 x] w fun e w' => e = .returned (.tuple #[.slice none 0 0, .int .i64 r]) ∧ w = w' := by
  have P := Lib.hid (place_any A n c i wd w hn hi r hr)
  clear hi hr
  rcases h13 with rfl | rfl
  all_goals go_enter Try.func12, Try.ntmps12
  all_goals go_wp2_with (go_at_call 23; refine (P.out).mono ?_; rintro e w' ⟨rfl, rfl⟩)
  all_goals go_ret2
  all_goals exact ⟨rfl, rfl⟩

set_option maxHeartbeats 400000 in
theorem Put_nofit (A : Option Addr) (n c : Nat) (i wd x : Int) (w : World) (hn : n ≤ 9223372036854775807) (hi : -9223372036854775808 ≤ i ∧ i ≤ 9223372036854775807) (hr : roomE n i wd = 0) (hw : isW wd = true)
    (hx : -9223372036854775808 ≤ x ∧ x ≤ 9223372036854775807) (hf : fitsB x wd = false) :
    Calls Try.prog 12 #[.slice A n c, .int .i64 i, .int .i64 wd, .int .i64 x] w fun e w' => e = .returned (.tuple #[.slice none 0 0, .int .i64 2]) ∧ w = w' := by
  have P := Lib.hid (place_any A n c i wd w hn hi 0 hr)
  have F := Lib.hid (fits_any x wd w hw hx false hf)
  clear hi hr hf hw hx
  go_enter Try.func12, Try.ntmps12
  go_wp2_with (first
    | (go_at_call 23; refine (P.out).mono ?_; rintro e w' ⟨rfl, rfl⟩)
    | (go_at_call 24; refine (F.out).mono ?_; rintro e w' ⟨rfl, rfl⟩))
  go_ret2
  exact ⟨rfl, rfl⟩

set_option maxHeartbeats 400000 in
theorem Put_own (A : Option Addr) (n c k : Nat) (wd : Int) (x : Nat) (l : List UInt8) (w : World) (h : Bytes8 w A n c l) (hn : n ≤ 140737488355320) (hr : roomE n k wd = 0) (hw : isW wd = true) (hk : k + wd.toNat ≤ n)
    (hx : x < 9223372036854775808) (hf : fitsB x wd = true) :
    Calls Try.prog 12 #[.slice A n c, .int .i64 k, .int .i64 wd, .int .i64 x] w fun e w' => e = .returned (.tuple #[.slice (some ⟨w.heap.size, 0, none⟩) n n, .int .i64 0]) ∧
      Own8 w' w.heap.size w.heap.size (l.take k ++ (encN wd.toNat x ++ l.drop (k + wd.toNat))) ∧ Below w.heap.size w w' := by
  have P := Lib.hid (place_any A n c k wd w (by omega) (by omega) 0 hr)
  have F := Lib.hid (fits_any x wd w hw (by omega) true hf)
  obtain ⟨m, hm⟩ : ∃ m : Nat, m = wd.toNat := ⟨_, rfl⟩
  have S : ∀ W : World, Calls Try.prog 25 #[.slice none 0 0, .int .i64 x, .int .i64 wd] W fun e w' => ∃ A' c', e = .returned (.slice A' m c') ∧ Bytes8 w' A' m c' (encN m x) ∧ Below W.heap.size W w' :=
    fun W => (split_any W.heap.size (.slice none 0 0) 0 [] x wd W (World.ownsRow_nil _ _ _ _) (Nat.le_refl _) (by omega) (by omega) (by omega) hw).mono fun e w' ⟨v', he, ho, hb⟩ => by
      simp only [Nat.zero_add, List.nil_append, Int.toNat_natCast, ← hm] at ho
      obtain ⟨A', c', rfl, hB⟩ := Bytes8.of_own ho
      exact ⟨A', c', he, hB, hb⟩
  have hb8 : 1 ≤ wd ∧ wd ≤ 8 := by rcases isW_cases hw with h | h | h | h <;> omega
  obtain ⟨i0, hi0, hz0, hz1, hz2⟩ := info_parts info_u8
  have HB := Lib.hid h
  have HS := Lib.hid S
  clear h hr hf hw S
  have hkm : k + m ≤ n := by omega
  have hm1 : 1 ≤ m := by omega
  have hkn : k ≤ n := by omega
  have hnk : ¬ n = k := by omega
  rw [← hm]
  have HM := Lib.hid hm
  clear hm hk
  go_enter Try.func12, Try.ntmps12
  go_wp2_with (first
    | (go_at_call 23; refine (P.out).mono ?_; rintro e w' ⟨rfl, rfl⟩)
    | (go_at_call 24; refine (F.out).mono ?_; rintro e w' ⟨rfl, rfl⟩)
    | (at_make; refine wpList_make_full w rfl (.tmp 24) (.tmp 24) _ rfl w.heap.size 5 i0 _ 1 Try.underlying24 hi0 hz0 hz1 .i64 .i64 _ _ n rfl rfl rfl rfl (by rw [hz2]; omega) (by simp only [maxLen]; omega) (Nat.le_refl _) ?_; intro w1 hown1 hg1; have hb1 := below_of_grown hg1 (by simp); have HO1 := Lib.hid hown1; clear hown1)
    | (refine wpList_copy_splice rfl (.tmp 26) (.tmp 27) _ _ rfl 5 Try.underlying24 size_u8 _ _ _ _ _ _ rfl rfl w.heap.size 0 _ 5 (ownsRow_whole HO1.out) (u8s l) (by rw [u8s_length, HB.out.len]; exact (Nat.min_self n).symm) (fun hp => ⟨rfl, (HB.out.row.below hb1).src hp⟩) (by have := HO1.out.1; rw [u8s_length, HB.out.len]; omega) (u8s_one _) w.heap.size w hb1 (Nat.le_refl _) ?_; intro w2 HG2 hb2; have HG2 : Hid (w2.heap[w.heap.size]? = some (.cells (u8s l).toArray 5 (0, 0))) := (by have h1 := HO1.out.1; have h2 := HB.out.len; rw [splice_all _ _ (by rw [u8s_length]; omega)] at HG2; exact HG2)))
  go_region_law (first
    | (go_simp; go_at_call 25; go_must (have hlt2 := block_lt HG2.out; refine (HS.out _).mono ?_; rintro e w3 ⟨A3, c3, rfl, HB3, hbb3⟩; have hb3 := hb2.drew.trans (hbb3.mono hb2.size); have HG3 : Hid (w3.heap[w.heap.size]? = _) := (hbb3.block w.heap.size hlt2).trans HG2.out))
    | (refine step_copy_splice rfl (.tmp 31) (.tmp 34) _ _ rfl 5 Try.underlying24 size_u8 _ _ _ _ _ _ rfl rfl w.heap.size k _ 5 (HG3.out) (u8s (encN m x)) (by rw [u8s_length, encN_length]; exact (Nat.min_eq_left (by omega)).symm) (fun hp => ⟨rfl, HB3.row.src hp⟩) (by have := HB.out.len; rw [u8s_length, u8s_length, encN_length]; omega) (u8s_one _) w.heap.size w hb3 (Nat.le_refl _) ?_; intro w4 HG4 hb4))
  go_wp2
  go_ret2
  refine ⟨rfl, ⟨Nat.le_refl _, ?_⟩, hb4⟩
  have := HG4.out
  simpa [splice, u8s_take, u8s_drop, u8s_append, u8s_length, encN_length] using this

theorem Put_good (A : Option Addr) (n c k : Nat) (wd : Int) (x : Nat) (l : List UInt8) (w : World) (h : Bytes8 w A n c l) (hn : n ≤ 140737488355320) (hr : roomE n k wd = 0) (hw : isW wd = true) (hk : k + wd.toNat ≤ n)
    (hx : x < 9223372036854775808) (hf : fitsB x wd = true) :
    Calls Try.prog 12 #[.slice A n c, .int .i64 k, .int .i64 wd, .int .i64 x] w fun e w' => ∃ A' c', e = .returned (.tuple #[.slice A' n c', .int .i64 0]) ∧
      Bytes8 w' A' n c' (l.take k ++ (encN wd.toNat x ++ l.drop (k + wd.toNat))) ∧ Below w.heap.size w w' :=
  (Put_own A n c k wd x l w h hn hr hw hk hx hf).mono fun e w' ⟨h1, h2, h3⟩ => ⟨_, _, h1, h2.bytes (by
    have := h.len
    simp only [List.length_append, List.length_take, List.length_drop, encN_length]
    omega) (by omega), h3⟩

theorem Put_any (A : Option Addr) (n c : Nat) (l : List UInt8) (i wd x : Int) (w : World) (h : Bytes8 w A n c l) (hn : n ≤ 140737488355320) (hi : -9223372036854775808 ≤ i ∧ i ≤ 9223372036854775807) (hx : -9223372036854775808 ≤ x ∧ x ≤ 9223372036854775807) :
    Calls Try.prog 12 #[.slice A n c, .int .i64 i, .int .i64 wd, .int .i64 x] w fun e w' => ∃ A' m c', e = .returned (.tuple #[.slice A' m c', .int .i64 (putE l i wd x)]) ∧ Bytes8 w' A' m c' (putB l i wd x) ∧ Below w.heap.size w w' := by
  have hl := h.len
  rcases roomE_cases n i wd with hr | hr | ⟨hr, hw, h0, h1⟩
  · refine (Put_bad A n c i wd x w h.le hi 1 hr (.inl rfl)).mono ?_
    rintro e w' ⟨rfl, rfl⟩
    exact ⟨none, 0, 0, by simp [putE, hl, hr], by simpa [putB, putE, hl, hr] using Bytes8.nil w, Below.refl _ _⟩
  · refine (Put_bad A n c i wd x w h.le hi 3 hr (.inr rfl)).mono ?_
    rintro e w' ⟨rfl, rfl⟩
    exact ⟨none, 0, 0, by simp [putE, hl, hr], by simpa [putB, putE, hl, hr] using Bytes8.nil w, Below.refl _ _⟩
  · cases hf : fitsB x wd with
    | false =>
      refine (Put_nofit A n c i wd x w h.le hi hr hw hx hf).mono ?_
      rintro e w' ⟨rfl, rfl⟩
      exact ⟨none, 0, 0, by simp [putE, hl, hr, hf], by simpa [putB, putE, hl, hr, hf] using Bytes8.nil w, Below.refl _ _⟩
    | true =>
      have hx0 : 0 ≤ x := by simp [fitsB] at hf; exact hf.1
      obtain ⟨k, rfl⟩ := Int.eq_ofNat_of_zero_le h0
      obtain ⟨y, rfl⟩ := Int.eq_ofNat_of_zero_le hx0
      have hb8 : 1 ≤ wd := by rcases isW_cases hw with h | h | h | h <;> omega
      refine (Put_good A n c k wd y l w h hn hr hw (by omega) (by omega) hf).mono ?_
      rintro e w' ⟨A', c', rfl, hB, hb⟩
      exact ⟨A', n, c', by simp [putE, hl, hr, hf], by simpa [putB, putE, hl, hr, hf] using hB, hb⟩

end Go.Proofs.Ytolapeocdaknjaa
