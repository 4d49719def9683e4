/-
  Layer 3's Of, Bytes, Copy.
-/
import Derived.Test.YtadoclbalcecpaaImgB
namespace Go.Proofs.Ytadoclbalcecpaa
open Go.RowKit
set_option linter.unusedVariables false
set_option linter.unusedSimpArgs false

/-- how many blocks n bytes begin with -/
def whole (n : Nat) : Nat := min (n / 256) 14400

theorem img_fill {w1 w2 : World} {B p g q : Nat} {l : List UInt8} (h : Img w1 B p g (List.replicate (q * 256) 0)) (hl : q * 256 ≤ l.length) (hk : Kept g w1 w2)
    (hg : w2.heap[g]? = some (.cells (splice (u8s (List.replicate (q * 256) 0)) 0 (u8s (l.take (q * 256)))).toArray 5 (0, 0))) : Img w2 B p g (l.take (q * 256)) := by
  have hlen : (l.take (q * 256)).length = q * 256 := by rw [List.length_take]; omega
  refine ⟨h.bp, h.bg, h.ne, ?_, ?_, ?_⟩
  · rw [hk.block p h.ne, h.hp, List.length_replicate, hlen]
  · rw [hg, splice_all _ _ (by rw [u8s_length, u8s_length, List.length_replicate, hlen])]
  · have := h.most
    rw [List.length_replicate] at this
    rw [hlen]; exact this

set_option maxHeartbeats 800000 in
theorem Of_any (A : Option Addr) (n c : Nat) (l : List UInt8) (w : World) (h : Bytes8 w A n c l) :
    Calls Try.prog 10 #[.slice A n c] w fun e w' => ∃ p g, e = .returned (.pointer (some ⟨p, 0, none⟩)) ∧ Img w' w.heap.size p g (l.take (whole n * 256)) ∧ Below w.heap.size w w' := by
  have hm := h.le
  obtain ⟨q, hq⟩ : ∃ q, q = whole n := ⟨_, rfl⟩
  have hq1 : q * 256 ≤ n := by rw [hq]; unfold whole; omega
  have hq2 : q ≤ 14400 := by rw [hq]; unfold whole; omega
  have N : ∀ x : Int, x = (q : Int) → Hid (Calls Try.prog 19 #[.int .i64 x] w fun e w' => ∃ p g, e = .returned (.tuple #[.pointer (some ⟨p, 0, none⟩), .int .i64 0]) ∧ Img w' w.heap.size p g (List.replicate (q * 256) 0) ∧ Below w.heap.size w w') := fun x hx => by rw [hx]; exact New_good _ w hq2
  have HL := Lib.hid h
  have hmin : min n (q * 256) = q * 256 := by omega
  rw [← hq]
  clear h
  by_cases hc : n / 256 ≤ 14400
  · have hc1 : (n : Int) / 256 ≤ 14400 := by omega
    have N1 := N ((n : Int) / 256) (by rw [hq]; unfold whole; omega)
    clear N hc hq
    go_enter Try.func10, Try.ntmps10
    go_wp2_with (first
      | (go_at_call 19; refine (N1.out).mono ?_; rintro e w1 ⟨p, g, rfl, HI, hb1⟩; have hc1 := HI.cell1; rw [List.length_replicate] at hc1; have HJ := Lib.hid HI; clear HI)
      | (refine wpList_copy_keep rfl (.tmp 16) (.tmp 17) _ _ rfl 5 Try.underlying22 size_byte _ _ _ _ _ _ rfl rfl g 0 (u8s (List.replicate (q * 256) 0)) 5 HJ.out.hg (u8s (l.take (q * 256))) (by have h1 := HL.out.len; rw [u8s_length, List.length_take, h1]; show _ = min _ _; omega) (fun hp => ⟨rfl, ((HL.out.row.take (q * 256)).below hb1).src (by rw [u8s_take]; exact hp) |> fun ⟨ad, e, hh⟩ => ⟨ad, e, by rw [u8s_take] at hh; exact hh⟩⟩) (by have h1 := HL.out.len; rw [u8s_length, u8s_length, List.length_replicate, List.length_take]; omega) (u8s_one _) ?_; intro w2 HG2 hk2))
    go_ret
    exact ⟨p, g, rfl, img_fill HJ.out (by rw [HL.out.len]; exact hq1) hk2 HG2.out, hb1.trans (hk2.below HJ.out.bg)⟩
  · have hc1 : 14400 < (n : Int) / 256 := by omega
    have N1 := N 14400 (by rw [hq]; unfold whole; omega)
    clear N hc hq
    go_enter Try.func10, Try.ntmps10
    go_wp2_with (first
      | (go_at_call 19; refine (N1.out).mono ?_; rintro e w1 ⟨p, g, rfl, HI, hb1⟩; have hc1 := HI.cell1; rw [List.length_replicate] at hc1; have HJ := Lib.hid HI; clear HI)
      | (refine wpList_copy_keep rfl (.tmp 16) (.tmp 17) _ _ rfl 5 Try.underlying22 size_byte _ _ _ _ _ _ rfl rfl g 0 (u8s (List.replicate (q * 256) 0)) 5 HJ.out.hg (u8s (l.take (q * 256))) (by have h1 := HL.out.len; rw [u8s_length, List.length_take, h1]; show _ = min _ _; omega) (fun hp => ⟨rfl, ((HL.out.row.take (q * 256)).below hb1).src (by rw [u8s_take]; exact hp) |> fun ⟨ad, e, hh⟩ => ⟨ad, e, by rw [u8s_take] at hh; exact hh⟩⟩) (by have h1 := HL.out.len; rw [u8s_length, u8s_length, List.length_replicate, List.length_take]; omega) (u8s_one _) ?_; intro w2 HG2 hk2))
    go_ret
    exact ⟨p, g, rfl, img_fill HJ.out (by rw [HL.out.len]; exact hq1) hk2 HG2.out, hb1.trans (hk2.below HJ.out.bg)⟩

set_option maxHeartbeats 800000 in
theorem Bytes_none (v : Value) (w : World) (hO : ∀ W, Below w.heap.size w W → Calls Try.prog 23 #[v] W fun e w' => e = .returned (.slice none 0 0) ∧ W = w') :
    Calls Try.prog 17 #[v] w fun e w' => ∃ A, e = .returned (.slice A 0 0) ∧ Below w.heap.size w w' := by
  obtain ⟨i0, hi0, hz0, hz1, hz2⟩ := info_parts info_byte
  have O := Lib.hid hO
  clear hO
  go_enter Try.func17, Try.ntmps17
  go_wp2_with (first
    | (go_at_call 23; (with_reducible refine (O.out _ hb1).mono ?_); rintro e w' ⟨rfl, rfl⟩)
    | (go_at_call 23; (with_reducible refine (O.out _ (Below.refl _ _)).mono ?_); rintro e w' ⟨rfl, rfl⟩)
    | (at_make; go_must (refine wpList_make_full w rfl (.tmp 6) (.tmp 6) _ rfl w.heap.size 5 i0 _ 1 Try.underlying22 hi0 hz0 hz1 .i64 .i64 _ _ 0 rfl rfl rfl rfl (by rw [hz2]; omega) (by simp only [maxLen]; omega) (Nat.le_refl _) ?_; intro w1 hown1 hg1; have hb1 := below_of_grown hg1 (by simp); clear hown1))
    | (refine wpList_copy_nothing rfl (.tmp 8) (.tmp 10) _ _ rfl 5 Try.underlying22 size_byte _ _ _ _ _ _ rfl rfl rfl ?_))
  go_ret
  exact ⟨_, rfl, hb1⟩

theorem Bytes_nil (w : World) : Calls Try.prog 17 #[.pointer none] w fun e w' => ∃ A, e = .returned (.slice A 0 0) ∧ Below w.heap.size w w' :=
  Bytes_none _ w fun W _ => own_nil W

theorem Bytes_other (p : Nat) (w : World) (h0 : w.cell? ⟨p, 0, none⟩ = some (.pointer none)) : Calls Try.prog 17 #[.pointer (some ⟨p, 0, none⟩)] w fun e w' => ∃ A, e = .returned (.slice A 0 0) ∧ Below w.heap.size w w' :=
  Bytes_none _ w fun W hb => own_other p W ((hb.cell (p := ⟨p, 0, none⟩) (cell_lt h0)).trans h0)

set_option maxHeartbeats 800000 in
theorem Bytes_fresh {B p g : Nat} {L : List UInt8} (w : World) (h : Img w B p g L) :
    Calls Try.prog 17 #[.pointer (some ⟨p, 0, none⟩)] w fun e w' => ∃ A, e = .returned (.slice A L.length L.length) ∧ Bytes8 w' A L.length L.length L ∧ Below w.heap.size w w' ∧ Fresh w.heap.size A := by
  have HI := Lib.hid h
  have hm := h.most
  obtain ⟨i0, hi0, hz0, hz1, hz2⟩ := info_parts info_byte
  obtain ⟨n, hn⟩ : ∃ n, n = L.length := ⟨_, rfl⟩
  have O : Hid (∀ W, Below w.heap.size w W → Calls Try.prog 23 #[.pointer (some ⟨p, 0, none⟩)] W fun e w' => e = .returned (.slice (some ⟨g, 0, none⟩) n n) ∧ W = w') := fun W hb => by rw [hn]; exact own_img W (h.later hb)
  have HN := Lib.hid hn
  rw [← hn]
  rw [← hn] at hm
  clear h hn
  go_enter Try.func17, Try.ntmps17
  go_wp2_with (first
    | (go_at_call 23; (with_reducible refine (O.out _ hb1).mono ?_); rintro e w' ⟨rfl, rfl⟩)
    | (go_at_call 23; (with_reducible refine (O.out _ (Below.refl _ _)).mono ?_); rintro e w' ⟨rfl, rfl⟩)
    | (at_make; go_must (refine wpList_make_full w rfl (.tmp 6) (.tmp 6) _ rfl w.heap.size 5 i0 _ 1 Try.underlying22 hi0 hz0 hz1 .i64 .i64 _ _ n rfl rfl rfl rfl (by rw [hz2]; omega) (by simp only [maxLen]; omega) (Nat.le_refl _) ?_; intro w1 hown1 hg1; have hb1 := below_of_grown hg1 (by simp); have HO1 := Lib.hid hown1; clear hown1))
    | (refine wpList_copy_keep rfl (.tmp 8) (.tmp 10) _ _ rfl 5 Try.underlying22 size_byte _ _ _ _ _ _ rfl rfl w.heap.size 0 _ 5 (ownsRow_whole HO1.out) (u8s L) (by rw [u8s_length, ← HN.out]; exact (Nat.min_self _).symm) (fun hp => ⟨rfl, (HI.out.bytes.row.below hb1).src hp⟩) (by have h1 := HO1.out.1; have h2 := HN.out; rw [u8s_length]; omega) (u8s_one _) ?_; intro w2 HG2 hk2))
  go_ret
  have hL : (madeCells (Value.int .u8 0).cells (n * 1)).toList.length = (u8s L).length := by rw [HO1.out.1, u8s_length, ← HN.out]; omega
  have hg : w2.heap[w.heap.size]? = some (.cells (u8s L).toArray 5 (0, 0)) := by rw [HG2.out, splice_all _ _ hL.symm]
  refine ⟨some ⟨w.heap.size, 0, none⟩, rfl, ⟨HN.out.symm, Nat.le_refl _, by omega, Row.of_block hg⟩, hb1.trans (hk2.below (Nat.le_refl _)), fun ad e => by cases e; exact Nat.le_refl _⟩

theorem Bytes_img {B p g : Nat} {L : List UInt8} (w : World) (h : Img w B p g L) :
    Calls Try.prog 17 #[.pointer (some ⟨p, 0, none⟩)] w fun e w' => ∃ A, e = .returned (.slice A L.length L.length) ∧ Bytes8 w' A L.length L.length L ∧ Below w.heap.size w w' :=
  (Bytes_fresh w h).mono fun e w' ⟨A, h1, h2, h3, _⟩ => ⟨A, h1, h2, h3⟩

theorem Copy_nil (w : World) : Calls Try.prog 21 #[.pointer none] w fun e w' => e = .returned (.pointer none) ∧ w = w' := by
  go_enter Try.func21, Try.ntmps21
  go_wp2
  go_ret
  exact ⟨rfl, rfl⟩

theorem Copy_of (p : Nat) (A : Option Addr) (n c : Nat) (l : List UInt8) (w : World) (hO : Calls Try.prog 23 #[.pointer (some ⟨p, 0, none⟩)] w fun e w' => e = .returned (.slice A n c) ∧ w = w') (hl : Bytes8 w A n c l) :
    Calls Try.prog 21 #[.pointer (some ⟨p, 0, none⟩)] w fun e w' => ∃ p' g', e = .returned (.pointer (some ⟨p', 0, none⟩)) ∧ Img w' w.heap.size p' g' (l.take (whole n * 256)) ∧ Below w.heap.size w w' := by
  have O := Lib.hid hO
  have F := Lib.hid (Of_any A n c l w hl)
  clear hO hl
  go_enter Try.func21, Try.ntmps21
  go_wp2_with (first
    | (go_at_call 23; refine (O.out).mono ?_; rintro e w' ⟨rfl, rfl⟩)
    | (go_at_call 10; refine (F.out).mono ?_; rintro e w' ⟨p', g', rfl, HI, hb⟩))
  go_ret
  exact ⟨p', g', rfl, HI, hb⟩

theorem Copy_img {B p g n : Nat} {L : List UInt8} (w : World) (h : Img w B p g L) (hn : L.length = n * 256) :
    Calls Try.prog 21 #[.pointer (some ⟨p, 0, none⟩)] w fun e w' => ∃ p' g', e = .returned (.pointer (some ⟨p', 0, none⟩)) ∧ Img w' w.heap.size p' g' L ∧ Below w.heap.size w w' := by
  have hm := h.most
  have e : L.take (whole L.length * 256) = L := List.take_of_length_le (by unfold whole; omega)
  have := Copy_of p _ _ _ L w (own_img w h) h.bytes
  rwa [e] at this

theorem Copy_other (p : Nat) (w : World) (h0 : w.cell? ⟨p, 0, none⟩ = some (.pointer none)) :
    Calls Try.prog 21 #[.pointer (some ⟨p, 0, none⟩)] w fun e w' => ∃ p' g', e = .returned (.pointer (some ⟨p', 0, none⟩)) ∧ Img w' w.heap.size p' g' [] ∧ Below w.heap.size w w' := by
  have := Copy_of p _ _ _ [] w (own_other p w h0) (Bytes8.nil w)
  simpa using this

end Go.Proofs.Ytadoclbalcecpaa
