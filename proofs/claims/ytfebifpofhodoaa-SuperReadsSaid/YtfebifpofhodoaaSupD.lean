/-
  Layer 6's Put.
-/
import Derived.Test.YtfebifpofhodoaaSupC
import Derived.Test.YtfebifpofhodoaaMemH
namespace Go.Proofs.Ytfebifpofhodoaa
open Go.RowKit
set_option linter.unusedVariables false
set_option linter.unusedSimpArgs false

/-- what an encoding begins with -/
def magic : List UInt8 := [83, 67, 65, 78, 84, 76, 73, 78]
/-- an encoding -/
def encS (f : Nat → Int) : List UInt8 := magic ++ (encs (fl f 11) ++ List.replicate 188 0)
def putSE (f : Nat → Int) : Int := if allB f 11 = true then 0 else 1
def putSB (f : Nat → Int) : List UInt8 := if allB f 11 = true then encS f else []

theorem encs_fl (f : Nat → Int) (k : Nat) : (encs (fl f k)).length = 4 * (k + 1) := by
  induction k with
  | zero => rfl
  | succ k ih =>
    have e : encs (fl f (k + 1)) = encs (fl f k) ++ encN 4 (f k).toNat := by simp [fl, encs]
    rw [e, List.length_append, ih, encN_length]
    omega

theorem encS_length (f : Nat → Int) : (encS f).length = 244 := by
  simp only [encS, List.length_append, encs_fl, List.length_replicate]
  rfl

theorem allB_at {f : Nat → Int} {n : Nat} (h : allB f n = true) {k : Nat} (hk : k < n) : okB f k = true := by
  induction n with
  | zero => omega
  | succ n ih =>
    simp only [allB, Bool.and_eq_true] at h
    by_cases e : k = n
    · subst e; exact h.2
    · exact ih h.1 (by omega)

/-- the bounds of a superblock that may be -/
theorem allB_bounds {f : Nat → Int} (h : allB f 11 = true) {k : Nat} (hk : k < 11) : 0 ≤ f k ∧ f k ≤ 2147483647 := by
  have hx := allB_at h hk
  have h4 := allB_at h (show 4 < 11 by omega)
  simp only [okB, Bool.and_eq_true, decide_eq_true_eq] at hx h4
  have e4 : loV 4 = 2 := rfl
  have e5 : hiV (wrap64 (f 4 - 1)) 4 = 14400 := rfl
  rw [e4, e5] at h4
  have hw : wrap64 (f 4 - 1) = f 4 - 1 := by unfold wrap64; omega
  rw [hw] at hx
  rcases (show k = 0 ∨ k = 1 ∨ k = 2 ∨ k = 3 ∨ k = 4 ∨ k = 5 ∨ k = 6 ∨ k = 7 ∨ k = 8 ∨ k = 9 ∨ k = 10 by omega) with rfl | rfl | rfl | rfl | rfl | rfl | rfl | rfl | rfl | rfl | rfl
  all_goals simp only [loV, hiV] at hx
  all_goals omega

theorem packE_fl {f : Nat → Int} (h : ∀ k, k < 11 → 0 ≤ f k ∧ f k ≤ 2147483647) {k : Nat} (hk : k ≤ 11) : packE (fl f k) = 0 := by
  induction k with
  | zero => rfl
  | succ k ih =>
    have hb := h k (by omega)
    have f1 : fitsB (f k) 4 = true := by simp [fitsB]; omega
    rw [fl, packE_append, if_pos (ih (by omega))]
    simp [packE, isW, f1]

theorem fl_bds {f : Nat → Int} (h : ∀ k, k < 11 → 0 ≤ f k ∧ f k ≤ 2147483647) {k : Nat} (hk : k ≤ 11) : ∀ p ∈ fl f k, i64b p.1 ∧ i64b p.2 := by
  induction k with
  | zero => intro p hp; simp [fl] at hp; subst hp; exact ⟨by simp [i64b], by simp [i64b]⟩
  | succ k ih =>
    intro p hp
    rw [fl, List.mem_append] at hp
    rcases hp with hp | hp
    · exact ih (by omega) p hp
    · have hb := h k (by omega)
      simp only [List.mem_cons, List.not_mem_nil, or_false] at hp
      subst hp
      exact ⟨by simp [i64b], by simp only [i64b]; omega⟩

set_option maxHeartbeats 400000 in
theorem SPut_bad (w : World) (f : Nat → Int) (h : allB f 11 = false) : Calls Try.prog 6 #[supV f] w fun e w' => e = .returned (.tuple #[.slice none 0 0, .int .i64 1]) ∧ Below w.heap.size w w' := by
  have R : Hid (∀ W, Below w.heap.size w W → Calls Try.prog 8 #[supV f] W fun e w' => e = .returned (.bool false) ∧ Below w.heap.size w w') := fun W hW => (SRight_any W f).mono fun e w' ⟨h1, h2⟩ => by
    rw [h] at h1
    exact ⟨h1, hW.trans (h2.mono hW.size)⟩
  have hb : Below w.heap.size w (w.alloc (.cells (supC f) 23)) := (Below.refl _ _).alloc (Nat.le_refl _) _
  clear h
  simp only [supV, supC] at R hb ⊢
  go_enter Try.func6, Try.ntmps6
  go_wp2_with (go_at_call 8; (with_reducible refine (R.out _ hb).mono ?_); rintro e w1 ⟨rfl, hb1⟩)
  go_ret2
  exact ⟨rfl, hb1⟩

theorem put_splice {b : List UInt8} (hb : b.length = 48) : splice (splice (List.replicate 244 0) 0 magic) 8 b = magic ++ (b ++ List.replicate 188 0) := by
  have e1 : splice (List.replicate 244 (0 : UInt8)) 0 magic = magic ++ List.replicate 236 0 := by
    rw [splice, List.take_zero, List.nil_append, List.drop_replicate]
    rfl
  rw [e1, splice, hb]
  have e2 : (magic ++ List.replicate 236 (0 : UInt8)).take 8 = magic := by rw [List.take_append_of_le_length (by decide)]; rfl
  have e3 : (magic ++ List.replicate 236 (0 : UInt8)).drop (8 + 48) = List.replicate 188 0 := by
    rw [List.drop_append, List.drop_of_length_le (by decide), List.nil_append, List.drop_replicate]
    rfl
  rw [e2, e3]

theorem u8s_splice' (a b : List UInt8) (i : Nat) : splice (u8s a) i (u8s b) = u8s (splice a i b) := by simp [splice, u8s]

theorem Flds.of_own2 {w : World} {base : Nat} {e : TypeId} {n : Nat} {v : Value} {l : List (Int × Int)} (h : w.ownsRow base e 2 v n (flds l)) (hb : ∀ p ∈ l, i64b p.1 ∧ i64b p.2) (hl : l.length = n) : ∃ A c, v = .slice A n c ∧ Flds w A n c l := by
  obtain ⟨A, c, rfl, h1, h2⟩ := ownsRow_form h
  exact ⟨A, c, rfl, ⟨hl, h1, by simpa [maxLen] using h2, Row.of_own h, hb⟩⟩

theorem put_start {w1 : World} {w : World} {f : Nat → Int} (hb : Below w.heap.size w w1) (hp : SupAt w1 w.heap.size f) :
    PutI w (((w1.alloc (.cells #[.int .i64 4, .int .i64 1] 39)).alloc (.cells #[.slice (some ⟨w1.heap.size, 0, none⟩) 1 1] 40))) w.heap.size (w1.heap.size + 1) (w.heap.size + 1) f 0 := by
  obtain ⟨t1, t2, tb⟩ := two_new w1 (.cells #[.int .i64 4, .int .i64 1] 39) (.cells #[.slice (some ⟨w1.heap.size, 0, none⟩) 1 1] 40)
  have hlt : w.heap.size < w1.heap.size := block_lt hp
  have ho := World.ownsRow_lit (base := w.heap.size + 1) (e := 39) (size := 2) w1 #[.int .i64 4, .int .i64 1] 1 (by omega) (by simp [maxLen]) rfl
  exact ⟨hb.trans (tb.mono hb.size), (tb.block _ hlt).trans hp, by have := tb.size; omega, _, 1, t2, own_keptS ho (fun k _ hk => ((Below.refl _ _).alloc (Nat.le_refl _) _ : Below _ _ _).block k hk)⟩

set_option maxRecDepth 100000 in
set_option maxHeartbeats 1600000 in
theorem SPut_good (w : World) (f : Nat → Int) (h : allB f 11 = true) : Calls Try.prog 6 #[supV f] w fun e w' => ∃ g, e = .returned (.tuple #[.slice (some ⟨g, 0, none⟩) 244 244, .int .i64 0]) ∧ Own8 w' w.heap.size g (encS f) ∧ Below w.heap.size w w' := by
  have hbd := fun k hk => allB_bounds h (k := k) hk
  have hmf : ∀ (fn : Fn) (first cap : Array Value) (w : World), (Instr.makeFunc fn first cap).run Try.prog w = .ok (.func fn first cap) w := fun _ _ _ _ => rfl
  have hsup := heap_alloc_new w (.cells (supC f) 23)
  have hb0 : Below w.heap.size w (w.alloc (.cells (supC f) 23)) := (Below.refl _ _).alloc (Nat.le_refl _) _
  have R : Hid (Calls Try.prog 8 #[supV f] (w.alloc (.cells (supC f) 23)) fun e w' => e = .returned (.bool true) ∧ Below w.heap.size w w' ∧ SupAt w' w.heap.size f) := (SRight_any _ f).mono fun e w' ⟨h1, h2⟩ => by
    rw [h] at h1
    exact ⟨h1, hb0.trans (h2.mono hb0.size), (h2.block _ (block_lt hsup)).trans hsup⟩
  have V : Hid (∀ w1, Below w.heap.size w w1 → SupAt w1 w.heap.size f → Calls Try.prog 13 #[.pointer (some ⟨w.heap.size, 0, none⟩), .func (.func 14) #[] #[.pointer (some ⟨w1.heap.size + 1, 0, none⟩)]]
      ((w1.alloc (.cells #[.int .i64 4, .int .i64 1] 39)).alloc (.cells #[.slice (some ⟨w1.heap.size, 0, none⟩) 1 1] 40)) fun e w' => e = .returned (.tuple #[]) ∧
      ∃ A c, w'.cell? ⟨w1.heap.size + 1, 0, none⟩ = some (.slice A 12 c) ∧ Flds w' A 12 c (fl f 11) ∧ Below w.heap.size w w') := fun w1 hb hs =>
    (put_visit (Nat.le_succ _) (by have := block_lt hs; omega) (Nat.lt_succ_self _) (put_start hb hs)).mono fun e w' ⟨h1, hI⟩ => by
      obtain ⟨A, c, hq, ho⟩ := hI.own
      obtain ⟨A', c', hv, hF⟩ := Flds.of_own2 ho (fl_bds hbd (by omega)) (fl_length f 11)
      injection hv with e1 e2 e3
      subst e1; subst e3
      exact ⟨h1, A, c, by rw [cell_of_row w' _ 0 _ _ _ hq]; rfl, hF, hI.bel⟩
  have PK : Hid (∀ A c W, Flds W A 12 c (fl f 11) → Calls Try.prog 15 #[.slice A 12 c] W fun e w' => ∃ A' c', e = .returned (.tuple #[.slice A' 48 c', .int .i64 0]) ∧ Bytes8 w' A' 48 c' (encs (fl f 11)) ∧ Below W.heap.size W w') := fun A c W hF =>
    (Pack_any A 12 c (fl f 11) W hF (by omega)).mono fun e w' ⟨A', m, c', h1, h2, h3⟩ => by
      have e0 : packE (fl f 11) = 0 := packE_fl hbd (by omega)
      rw [packB, if_pos e0] at h2
      rw [e0] at h1
      obtain rfl : 48 = m := by have := h2.len; rw [encs_fl] at this; exact this
      exact ⟨A', c', h1, h2, h3⟩
  have HLen := Lib.hid (encs_fl f 11)
  have HE : Hid (encS f = magic ++ (encs (fl f 11) ++ List.replicate 188 0)) := rfl
  generalize encs (fl f 11) = eb at *
  generalize fl f 11 = ff at *
  generalize encS f = es at *
  clear h hsup hb0 hbd
  obtain ⟨i0, hi0, hz0, hz1, hz2⟩ := info_parts info_u8
  simp only [supV, supC] at R ⊢
  go_enter Try.func6, Try.ntmps6
  go_wp2_with (first
    | (go_at_call 8; (with_reducible refine (R.out).mono ?_); rintro e w1 ⟨rfl, hb1, hs1⟩; have HS1 := Lib.hid hs1; clear hs1)
    | (go_at_call 13; (with_reducible refine (V.out w1 hb1 HS1.out).mono ?_); rintro e w2 ⟨rfl, A2, c2, hc2, hF2, hb2⟩; have HF2 := Lib.hid hF2; clear hF2)
    | (go_at_call 15; (with_reducible refine (PK.out _ _ _ HF2.out).mono ?_); rintro e w3 ⟨A3, c3, rfl, hB3, hb3⟩; have HB3 := Lib.hid hB3; clear hB3)
    | (at_make; refine wpList_make_full w3 rfl (.const (.int .i64 244)) (.const (.int .i64 244)) _ rfl w3.heap.size 5 i0 _ 1 Try.underlying24 hi0 hz0 hz1 .i64 .i64 _ _ 244 rfl rfl rfl rfl (by rw [hz2]; omega) (by simp only [maxLen]; omega) (Nat.le_refl _) ?_; intro w4 hown4 hg4; have hb4 := below_of_grown hg4 (by simp); have HO4 := Lib.hid (own_zeros hown4 (Nat.le_refl _)); clear hown4)
    | (refine wpList_copy_str rfl (.tmp 24) (.const (.string ⟨#[83, 67, 65, 78, 84, 76, 73, 78]⟩)) _ _ rfl 5 Try.underlying24 size_u8 w3.heap.size 0 244 244 ⟨#[83, 67, 65, 78, 84, 76, 73, 78]⟩ 8 rfl rfl rfl (by omega) (u8s (List.replicate 244 0)) 5 HO4.out.blk (by rw [u8s_length, List.length_replicate]; omega) w3.heap.size w3 hb4 (Nat.le_refl _) ?_; intro w5 HG5 hb5)
    | (refine wpList_copy_splice rfl (.tmp 27) (.tmp 28) _ _ rfl 5 Try.underlying24 size_u8 _ _ _ _ _ _ rfl rfl w3.heap.size 8 _ 5 HG5.out (u8s eb) (by rw [u8s_length, HLen.out]; rfl) (fun hp => ⟨rfl, (HB3.out.row.below hb5).src hp⟩) (by rw [u8s_splice', u8s_length, u8s_length, length_splice _ _ _ (by rw [List.length_replicate]; simp), List.length_replicate, HLen.out]; omega) (u8s_one _) w3.heap.size w3 hb5 (Nat.le_refl _) ?_; intro w6 HG6 hb6))
  go_ret2
  have h1 := hb2.trans (hb3.mono hb2.size)
  refine ⟨_, rfl, ⟨h1.size, ?_⟩, h1.trans (hb6.mono h1.size)⟩
  have := HG6.out
  rw [u8s_splice', u8s_splice'] at this
  rw [HE.out, ← put_splice HLen.out]
  exact this

theorem SPut_any (w : World) (f : Nat → Int) : Calls Try.prog 6 #[supV f] w fun e w' => ∃ A m c, e = .returned (.tuple #[.slice A m c, .int .i64 (putSE f)]) ∧ Bytes8 w' A m c (putSB f) ∧ Below w.heap.size w w' := by
  cases h : allB f 11 with
  | false =>
    refine (SPut_bad w f h).mono ?_
    rintro e w' ⟨rfl, hb⟩
    exact ⟨none, 0, 0, by rw [putSE, if_neg (by simp [h])], by rw [putSB, if_neg (by simp [h])]; exact Bytes8.nil _, hb⟩
  | true =>
    refine (SPut_good w f h).mono ?_
    rintro e w' ⟨g, rfl, hO, hb⟩
    exact ⟨_, 244, 244, by rw [putSE, if_pos h], by rw [putSB, if_pos h]; exact hO.bytes (encS_length f) (by omega), hb⟩

end Go.Proofs.Ytfebifpofhodoaa
