/-
  Joined: SupD, SupE, SupG, SupH, SupI, SupJ.
-/
import Derived.Test.YtbeobbanppkmhaaGreatDoorJBlkC15
import Derived.Test.YtbeobbanppkmhaaGreatDoorJBlkC21
import Derived.LoopTactic
import Derived.Test.YtbeobbanppkmhaaGreatDoorJBlkC10
import Derived.Laws.ResultCell
import Derived.Test.YtbeobbanppkmhaaGreatDoorJBlkC14
import Derived.Test.YtbeobbanppkmhaaGreatDoorJBlkC02
/-
  Layer 6's Put.
-/
namespace Go.Proofs.YtbeobbanppkmhaaGreatDoor
open Go.RowKit
set_option linter.unusedVariables false
set_option linter.unusedSimpArgs false

/-- what an encoding begins with -/
def magic : List UInt8 := [83, 67, 65, 78, 84, 76, 73, 78]
/-- an encoding -/
def encS (f : Nat → Int) : List UInt8 := magic ++ (encs (fl f 11) ++ List.replicate 188 0)
def putSE (f : Nat → Int) : Int := if allB f 11 = true then 0 else 1
def putSB (f : Nat → Int) : List UInt8 := if allB f 11 = true then encS f else []

theorem encs_fl (f : Nat → Int) (k : Nat) : (encs (fl f k)).length = 4 * (k + 1) := by
  induction k with
  | zero => rfl
  | succ k ih =>
    have e : encs (fl f (k + 1)) = encs (fl f k) ++ encN 4 (f k).toNat := by simp [fl, encs]
    rw [e, List.length_append, ih, encN_length]
    omega

theorem encS_length (f : Nat → Int) : (encS f).length = 244 := by
  simp only [encS, List.length_append, encs_fl, List.length_replicate]
  rfl

theorem allB_at {f : Nat → Int} {n : Nat} (h : allB f n = true) {k : Nat} (hk : k < n) : okB f k = true := by
  induction n with
  | zero => omega
  | succ n ih =>
    simp only [allB, Bool.and_eq_true] at h
    by_cases e : k = n
    · subst e; exact h.2
    · exact ih h.1 (by omega)

/-- the bounds of a superblock that may be -/
theorem allB_bounds {f : Nat → Int} (h : allB f 11 = true) {k : Nat} (hk : k < 11) : 0 ≤ f k ∧ f k ≤ 2147483647 := by
  have hx := allB_at h hk
  have h4 := allB_at h (show 4 < 11 by omega)
  simp only [okB, Bool.and_eq_true, decide_eq_true_eq] at hx h4
  have e4 : loV 4 = 2 := rfl
  have e5 : hiV (wrap64 (f 4 - 1)) 4 = 14400 := rfl
  rw [e4, e5] at h4
  have hw : wrap64 (f 4 - 1) = f 4 - 1 := by unfold wrap64; omega
  rw [hw] at hx
  rcases (show k = 0 ∨ k = 1 ∨ k = 2 ∨ k = 3 ∨ k = 4 ∨ k = 5 ∨ k = 6 ∨ k = 7 ∨ k = 8 ∨ k = 9 ∨ k = 10 by omega) with rfl | rfl | rfl | rfl | rfl | rfl | rfl | rfl | rfl | rfl | rfl
  all_goals simp only [loV, hiV] at hx
  all_goals omega

theorem packE_fl {f : Nat → Int} (h : ∀ k, k < 11 → 0 ≤ f k ∧ f k ≤ 2147483647) {k : Nat} (hk : k ≤ 11) : packE (fl f k) = 0 := by
  induction k with
  | zero => rfl
  | succ k ih =>
    have hb := h k (by omega)
    have f1 : fitsB (f k) 4 = true := by simp [fitsB]; omega
    rw [fl, packE_append, if_pos (ih (by omega))]
    simp [packE, isW, f1]

theorem fl_bds {f : Nat → Int} (h : ∀ k, k < 11 → 0 ≤ f k ∧ f k ≤ 2147483647) {k : Nat} (hk : k ≤ 11) : ∀ p ∈ fl f k, i64b p.1 ∧ i64b p.2 := by
  induction k with
  | zero => intro p hp; simp [fl] at hp; subst hp; exact ⟨by simp [i64b], by simp [i64b]⟩
  | succ k ih =>
    intro p hp
    rw [fl, List.mem_append] at hp
    rcases hp with hp | hp
    · exact ih (by omega) p hp
    · have hb := h k (by omega)
      simp only [List.mem_cons, List.not_mem_nil, or_false] at hp
      subst hp
      exact ⟨by simp [i64b], by simp only [i64b]; omega⟩

set_option maxRecDepth 100000 in
set_option maxHeartbeats 400000 in
theorem SPut_bad (w : World) (f : Nat → Int) (h : allB f 11 = false) : Calls Tryz.prog 83 #[supV f] w fun e w' => e = .returned (.tuple #[.slice none 0 0, .int .i64 1]) ∧ Below w.heap.size w w' := by
  have R : Hid (∀ W, Below w.heap.size w W → Calls Tryz.prog 130 #[supV f] W fun e w' => e = .returned (.bool false) ∧ Below w.heap.size w w') := fun W hW => (SRight_any W f).mono fun e w' ⟨h1, h2⟩ => by
    rw [h] at h1
    exact ⟨h1, hW.trans (h2.mono hW.size)⟩
  have hb : Below w.heap.size w (w.alloc (.cells (supC f) 29)) := (Below.refl _ _).alloc (Nat.le_refl _) _
  clear h
  simp only [supV, supC] at R hb ⊢
  go_enter Tryz.func83, Tryz.ntmps83
  go_wp2_with (go_at_call 130; (with_reducible refine (R.out _ hb).mono ?_); rintro e w1 ⟨rfl, hb1⟩)
  go_ret2
  exact ⟨rfl, hb1⟩

theorem put_splice {b : List UInt8} (hb : b.length = 48) : splice (splice (List.replicate 244 0) 0 magic) 8 b = magic ++ (b ++ List.replicate 188 0) := by
  have e1 : splice (List.replicate 244 (0 : UInt8)) 0 magic = magic ++ List.replicate 236 0 := by
    rw [splice, List.take_zero, List.nil_append, List.drop_replicate]
    rfl
  rw [e1, splice, hb]
  have e2 : (magic ++ List.replicate 236 (0 : UInt8)).take 8 = magic := by rw [List.take_append_of_le_length (by decide)]; rfl
  have e3 : (magic ++ List.replicate 236 (0 : UInt8)).drop (8 + 48) = List.replicate 188 0 := by
    rw [List.drop_append, List.drop_of_length_le (by decide), List.nil_append, List.drop_replicate]
    rfl
  rw [e2, e3]

theorem u8s_splice' (a b : List UInt8) (i : Nat) : splice (u8s a) i (u8s b) = u8s (splice a i b) := by simp [splice, u8s]

theorem Flds.of_own2 {w : World} {base : Nat} {e : TypeId} {n : Nat} {v : Value} {l : List (Int × Int)} (h : w.ownsRow base e 2 v n (flds l)) (hb : ∀ p ∈ l, i64b p.1 ∧ i64b p.2) (hl : l.length = n) : ∃ A c, v = .slice A n c ∧ Flds w A n c l := by
  obtain ⟨A, c, rfl, h1, h2⟩ := ownsRow_form h
  exact ⟨A, c, rfl, ⟨hl, h1, by simpa [maxLen] using h2, Row.of_own h, hb⟩⟩

theorem put_start {w1 : World} {w : World} {f : Nat → Int} (hb : Below w.heap.size w w1) (hp : SupAt w1 w.heap.size f) :
    PutI w (((w1.alloc (.cells #[.int .i64 4, .int .i64 1] 118)).alloc (.cells #[.slice (some ⟨w1.heap.size, 0, none⟩) 1 1] 115))) w.heap.size (w1.heap.size + 1) (w.heap.size + 1) f 0 := by
  obtain ⟨t1, t2, tb⟩ := two_new w1 (.cells #[.int .i64 4, .int .i64 1] 118) (.cells #[.slice (some ⟨w1.heap.size, 0, none⟩) 1 1] 115)
  have hlt : w.heap.size < w1.heap.size := block_lt hp
  have ho := World.ownsRow_lit (base := w.heap.size + 1) (e := 118) (size := 2) w1 #[.int .i64 4, .int .i64 1] 1 (by omega) (by simp [maxLen]) rfl
  exact ⟨hb.trans (tb.mono hb.size), (tb.block _ hlt).trans hp, by have := tb.size; omega, _, 1, t2, own_keptS ho (fun k _ hk => ((Below.refl _ _).alloc (Nat.le_refl _) _ : Below _ _ _).block k hk)⟩

set_option maxRecDepth 100000 in
set_option maxHeartbeats 1600000 in
theorem SPut_good (w : World) (f : Nat → Int) (h : allB f 11 = true) : Calls Tryz.prog 83 #[supV f] w fun e w' => ∃ g, e = .returned (.tuple #[.slice (some ⟨g, 0, none⟩) 244 244, .int .i64 0]) ∧ Own8 w' w.heap.size g (encS f) ∧ Below w.heap.size w w' := by
  have hbd := fun k hk => allB_bounds h (k := k) hk
  have hmf : ∀ (fn : Fn) (first cap : Array Value) (w : World), (Instr.makeFunc fn first cap).run Tryz.prog w = .ok (.func fn first cap) w := fun _ _ _ _ => rfl
  have hsup := heap_alloc_new w (.cells (supC f) 29)
  have hb0 : Below w.heap.size w (w.alloc (.cells (supC f) 29)) := (Below.refl _ _).alloc (Nat.le_refl _) _
  have R : Hid (Calls Tryz.prog 130 #[supV f] (w.alloc (.cells (supC f) 29)) fun e w' => e = .returned (.bool true) ∧ Below w.heap.size w w' ∧ SupAt w' w.heap.size f) := (SRight_any _ f).mono fun e w' ⟨h1, h2⟩ => by
    rw [h] at h1
    exact ⟨h1, hb0.trans (h2.mono hb0.size), (h2.block _ (block_lt hsup)).trans hsup⟩
  have V : Hid (∀ w1, Below w.heap.size w w1 → SupAt w1 w.heap.size f → Calls Tryz.prog 80 #[.pointer (some ⟨w.heap.size, 0, none⟩), .func (.func 131) #[] #[.pointer (some ⟨w1.heap.size + 1, 0, none⟩)]]
      ((w1.alloc (.cells #[.int .i64 4, .int .i64 1] 118)).alloc (.cells #[.slice (some ⟨w1.heap.size, 0, none⟩) 1 1] 115)) fun e w' => e = .returned (.tuple #[]) ∧
      ∃ A c, w'.cell? ⟨w1.heap.size + 1, 0, none⟩ = some (.slice A 12 c) ∧ Flds w' A 12 c (fl f 11) ∧ Below w.heap.size w w') := fun w1 hb hs =>
    (put_visit (Nat.le_succ _) (by have := block_lt hs; omega) (Nat.lt_succ_self _) (put_start hb hs)).mono fun e w' ⟨h1, hI⟩ => by
      obtain ⟨A, c, hq, ho⟩ := hI.own
      obtain ⟨A', c', hv, hF⟩ := Flds.of_own2 ho (fl_bds hbd (by omega)) (fl_length f 11)
      injection hv with e1 e2 e3
      subst e1; subst e3
      exact ⟨h1, A, c, by rw [cell_of_row w' _ 0 _ _ _ hq]; rfl, hF, hI.bel⟩
  have PK : Hid (∀ A c W, Flds W A 12 c (fl f 11) → Calls Tryz.prog 60 #[.slice A 12 c] W fun e w' => ∃ A' c', e = .returned (.tuple #[.slice A' 48 c', .int .i64 0]) ∧ Bytes8 w' A' 48 c' (encs (fl f 11)) ∧ Below W.heap.size W w') := fun A c W hF =>
    (Pack_any A 12 c (fl f 11) W hF (by omega)).mono fun e w' ⟨A', m, c', h1, h2, h3⟩ => by
      have e0 : packE (fl f 11) = 0 := packE_fl hbd (by omega)
      rw [packB, if_pos e0] at h2
      rw [e0] at h1
      obtain rfl : 48 = m := by have := h2.len; rw [encs_fl] at this; exact this
      exact ⟨A', c', h1, h2, h3⟩
  have HLen := Lib.hid (encs_fl f 11)
  have HE : Hid (encS f = magic ++ (encs (fl f 11) ++ List.replicate 188 0)) := rfl
  generalize encs (fl f 11) = eb at *
  generalize fl f 11 = ff at *
  generalize encS f = es at *
  clear h hsup hb0 hbd
  obtain ⟨i0, hi0, hz0, hz1, hz2⟩ := info_parts info_u8
  simp only [supV, supC] at R ⊢
  go_enter Tryz.func83, Tryz.ntmps83
  go_wp2_with (first
    | (go_at_call 130; (with_reducible refine (R.out).mono ?_); rintro e w1 ⟨rfl, hb1, hs1⟩; have HS1 := Lib.hid hs1; clear hs1)
    | (go_at_call 80; (with_reducible refine (V.out w1 hb1 HS1.out).mono ?_); rintro e w2 ⟨rfl, A2, c2, hc2, hF2, hb2⟩; have HF2 := Lib.hid hF2; clear hF2)
    | (go_at_call 60; (with_reducible refine (PK.out _ _ _ HF2.out).mono ?_); rintro e w3 ⟨A3, c3, rfl, hB3, hb3⟩; have HB3 := Lib.hid hB3; clear hB3)
    | (at_make; refine wpList_make_full w3 rfl (.const (.int .i64 244)) (.const (.int .i64 244)) _ rfl w3.heap.size 5 i0 _ 1 Tryz.underlying22 hi0 hz0 hz1 .i64 .i64 _ _ 244 rfl rfl rfl rfl (by rw [hz2]; omega) (by simp only [maxLen]; omega) (Nat.le_refl _) ?_; intro w4 hown4 hg4; have hb4 := below_of_grown hg4 (by simp); have HO4 := Lib.hid (own_zeros hown4 (Nat.le_refl _)); clear hown4)
    | (refine wpList_copy_str rfl (.tmp 24) (.const (.string ⟨#[83, 67, 65, 78, 84, 76, 73, 78]⟩)) _ _ rfl 5 Tryz.underlying22 size_u8 w3.heap.size 0 244 244 ⟨#[83, 67, 65, 78, 84, 76, 73, 78]⟩ 8 rfl rfl rfl (by omega) (u8s (List.replicate 244 0)) 5 HO4.out.blk (by rw [u8s_length, List.length_replicate]; omega) w3.heap.size w3 hb4 (Nat.le_refl _) ?_; intro w5 HG5 hb5)
    | (refine wpList_copy_splice rfl (.tmp 27) (.tmp 28) _ _ rfl 5 Tryz.underlying22 size_u8 _ _ _ _ _ _ rfl rfl w3.heap.size 8 _ 5 HG5.out (u8s eb) (by rw [u8s_length, HLen.out]; rfl) (fun hp => ⟨rfl, (HB3.out.row.below hb5).src hp⟩) (by rw [u8s_splice', u8s_length, u8s_length, length_splice _ _ _ (by rw [List.length_replicate]; simp), List.length_replicate, HLen.out]; omega) (u8s_one _) w3.heap.size w3 hb5 (Nat.le_refl _) ?_; intro w6 HG6 hb6))
  go_ret2
  have h1 := hb2.trans (hb3.mono hb2.size)
  refine ⟨_, rfl, ⟨h1.size, ?_⟩, h1.trans (hb6.mono h1.size)⟩
  have := HG6.out
  rw [u8s_splice', u8s_splice'] at this
  rw [HE.out, ← put_splice HLen.out]
  exact this

theorem SPut_any (w : World) (f : Nat → Int) : Calls Tryz.prog 83 #[supV f] w fun e w' => ∃ A m c, e = .returned (.tuple #[.slice A m c, .int .i64 (putSE f)]) ∧ Bytes8 w' A m c (putSB f) ∧ Below w.heap.size w w' := by
  cases h : allB f 11 with
  | false =>
    refine (SPut_bad w f h).mono ?_
    rintro e w' ⟨rfl, hb⟩
    exact ⟨none, 0, 0, by rw [putSE, if_neg (by simp [h])], by rw [putSB, if_neg (by simp [h])]; exact Bytes8.nil _, hb⟩
  | true =>
    refine (SPut_good w f h).mono ?_
    rintro e w' ⟨g, rfl, hO, hb⟩
    exact ⟨_, 244, 244, by rw [putSE, if_pos h], by rw [putSB, if_pos h]; exact hO.bytes (encS_length f) (by omega), hb⟩

end Go.Proofs.YtbeobbanppkmhaaGreatDoor

/-
  Layer 6's reference: in, Right.
-/
namespace Go.Proofs.YtbeobbanppkmhaaGreatDoor
open Go.RowKit
set_option linter.unusedVariables false
set_option linter.unusedSimpArgs false

def inB6 (n lo hi : Int) : Bool := decide (lo ≤ n) && decide (n ≤ hi)

set_option maxRecDepth 100000 in
theorem refIn_any (n lo hi : Int) (W : World) (r : Bool) (h : inB6 n lo hi = r) : Calls Tryz.prog 132 #[.int .i64 n, .int .i64 lo, .int .i64 hi] W fun e w' => e = .returned (.bool r) ∧ W = w' := by
  by_cases h1 : lo ≤ n
  · have e : decide (n ≤ hi) = r := by rw [← h, inB6, decide_eq_true h1, Bool.true_and]
    have HE := Lib.hid e
    clear h e
    go_enter Tryz.func132, Tryz.ntmps132
    go_wp2
    go_ret
    exact ⟨ret_bool HE.out, rfl⟩
  · have e : r = false := by rw [← h, inB6, decide_eq_false h1, Bool.false_and]
    subst e
    clear h
    go_enter Tryz.func132, Tryz.ntmps132
    go_wp2
    go_ret
    exact ⟨rfl, rfl⟩

theorem inB6_iff {n lo hi : Int} : inB6 n lo hi = true ↔ lo ≤ n ∧ n ≤ hi := by simp [inB6]

theorem allB_eq (f : Nat → Int) : allB f 11 = (inB6 (f 0) 0 2147483647 && (inB6 (f 1) 0 16777215 && (inB6 (f 2) 1 65536 && (inB6 (f 3) 0 65536 && (inB6 (f 4) 2 14400 && (inB6 (f 5) 1 (f 4 - 1) && (inB6 (f 6) 1 (f 4 - 1) && (inB6 (f 7) 1 (f 4 - 1) && (inB6 (f 8) 1 (f 4 - 1) && (inB6 (f 9) 1 (f 4 - 1) && (inB6 (f 10) 1 (f 4 - 1)))))))))))) := by
  have e : ∀ k, okB f k = inB6 (f k) (loV k) (hiV (wrap64 (f 4 - 1)) k) := fun _ => rfl
  simp only [allB, e, loV, hiV, Bool.true_and, Bool.and_assoc]
  cases h4 : inB6 (f 4) 2 14400
  · simp
  · rw [inB6_iff] at h4
    have hw : wrap64 (f 4 - 1) = f 4 - 1 := by unfold wrap64; omega
    rw [hw]

set_option maxRecDepth 100000 in
set_option maxHeartbeats 3200000 in
theorem refSRight_any (w : World) (f : Nat → Int) : Calls Tryz.prog 90 #[supV f] w fun e w' => e = .returned (.bool (allB f 11)) ∧ Below w.heap.size w w' := by
  have hb0 : Below w.heap.size w (w.alloc (.cells (supC f) 29)) := (Below.refl _ _).alloc (Nat.le_refl _) _
  have E := Lib.hid (allB_eq f)
  generalize allB f 11 = r at *
  simp only [supV, supC] at hb0 ⊢
  cases e0 : inB6 (f 0) 0 2147483647
  case false =>
    have e := E.out
    rw [e0] at e
    have I0 := Lib.hid (fun W => refIn_any _ _ _ W _ e0)
    obtain rfl : r = false := e
    clear E e0
    go_enter Tryz.func90, Tryz.ntmps90
    go_wp2_with (go_at_call 132; first
      | ((with_reducible refine (I0.out _).mono ?_); rintro e w' ⟨rfl, rfl⟩))
    go_ret
    exact ⟨rfl, hb0⟩
  cases e1 : inB6 (f 1) 0 16777215
  case false =>
    have e := E.out
    rw [e0, e1] at e
    have I0 := Lib.hid (fun W => refIn_any _ _ _ W _ e0)
    have I1 := Lib.hid (fun W => refIn_any _ _ _ W _ e1)
    obtain rfl : r = false := e
    clear E e0 e1
    go_enter Tryz.func90, Tryz.ntmps90
    go_wp2_with (go_at_call 132; first
      | ((with_reducible refine (I0.out _).mono ?_); rintro e w' ⟨rfl, rfl⟩)
      | ((with_reducible refine (I1.out _).mono ?_); rintro e w' ⟨rfl, rfl⟩))
    go_ret
    exact ⟨rfl, hb0⟩
  cases e2 : inB6 (f 2) 1 65536
  case false =>
    have e := E.out
    rw [e0, e1, e2] at e
    have I0 := Lib.hid (fun W => refIn_any _ _ _ W _ e0)
    have I1 := Lib.hid (fun W => refIn_any _ _ _ W _ e1)
    have I2 := Lib.hid (fun W => refIn_any _ _ _ W _ e2)
    obtain rfl : r = false := e
    clear E e0 e1 e2
    go_enter Tryz.func90, Tryz.ntmps90
    go_wp2_with (go_at_call 132; first
      | ((with_reducible refine (I0.out _).mono ?_); rintro e w' ⟨rfl, rfl⟩)
      | ((with_reducible refine (I1.out _).mono ?_); rintro e w' ⟨rfl, rfl⟩)
      | ((with_reducible refine (I2.out _).mono ?_); rintro e w' ⟨rfl, rfl⟩))
    go_ret
    exact ⟨rfl, hb0⟩
  cases e3 : inB6 (f 3) 0 65536
  case false =>
    have e := E.out
    rw [e0, e1, e2, e3] at e
    have I0 := Lib.hid (fun W => refIn_any _ _ _ W _ e0)
    have I1 := Lib.hid (fun W => refIn_any _ _ _ W _ e1)
    have I2 := Lib.hid (fun W => refIn_any _ _ _ W _ e2)
    have I3 := Lib.hid (fun W => refIn_any _ _ _ W _ e3)
    obtain rfl : r = false := e
    clear E e0 e1 e2 e3
    go_enter Tryz.func90, Tryz.ntmps90
    go_wp2_with (go_at_call 132; first
      | ((with_reducible refine (I0.out _).mono ?_); rintro e w' ⟨rfl, rfl⟩)
      | ((with_reducible refine (I1.out _).mono ?_); rintro e w' ⟨rfl, rfl⟩)
      | ((with_reducible refine (I2.out _).mono ?_); rintro e w' ⟨rfl, rfl⟩)
      | ((with_reducible refine (I3.out _).mono ?_); rintro e w' ⟨rfl, rfl⟩))
    go_ret
    exact ⟨rfl, hb0⟩
  cases e4 : inB6 (f 4) 2 14400
  case false =>
    have e := E.out
    rw [e0, e1, e2, e3, e4] at e
    have I0 := Lib.hid (fun W => refIn_any _ _ _ W _ e0)
    have I1 := Lib.hid (fun W => refIn_any _ _ _ W _ e1)
    have I2 := Lib.hid (fun W => refIn_any _ _ _ W _ e2)
    have I3 := Lib.hid (fun W => refIn_any _ _ _ W _ e3)
    have I4 := Lib.hid (fun W => refIn_any _ _ _ W _ e4)
    obtain rfl : r = false := e
    clear E e0 e1 e2 e3 e4
    go_enter Tryz.func90, Tryz.ntmps90
    go_wp2_with (go_at_call 132; first
      | ((with_reducible refine (I0.out _).mono ?_); rintro e w' ⟨rfl, rfl⟩)
      | ((with_reducible refine (I1.out _).mono ?_); rintro e w' ⟨rfl, rfl⟩)
      | ((with_reducible refine (I2.out _).mono ?_); rintro e w' ⟨rfl, rfl⟩)
      | ((with_reducible refine (I3.out _).mono ?_); rintro e w' ⟨rfl, rfl⟩)
      | ((with_reducible refine (I4.out _).mono ?_); rintro e w' ⟨rfl, rfl⟩))
    go_ret
    exact ⟨rfl, hb0⟩
  have h4 := inB6_iff.1 e4
  obtain ⟨h41, h42⟩ := h4
  cases e5 : inB6 (f 5) 1 (f 4 - 1)
  case false =>
    have e := E.out
    rw [e0, e1, e2, e3, e4, e5] at e
    have I0 := Lib.hid (fun W => refIn_any _ _ _ W _ e0)
    have I1 := Lib.hid (fun W => refIn_any _ _ _ W _ e1)
    have I2 := Lib.hid (fun W => refIn_any _ _ _ W _ e2)
    have I3 := Lib.hid (fun W => refIn_any _ _ _ W _ e3)
    have I4 := Lib.hid (fun W => refIn_any _ _ _ W _ e4)
    have I5 := Lib.hid (fun W => refIn_any _ _ _ W _ e5)
    obtain rfl : r = false := e
    clear E e0 e1 e2 e3 e4 e5
    go_enter Tryz.func90, Tryz.ntmps90
    go_wp2_with (go_at_call 132; first
      | ((with_reducible refine (I0.out _).mono ?_); rintro e w' ⟨rfl, rfl⟩)
      | ((with_reducible refine (I1.out _).mono ?_); rintro e w' ⟨rfl, rfl⟩)
      | ((with_reducible refine (I2.out _).mono ?_); rintro e w' ⟨rfl, rfl⟩)
      | ((with_reducible refine (I3.out _).mono ?_); rintro e w' ⟨rfl, rfl⟩)
      | ((with_reducible refine (I4.out _).mono ?_); rintro e w' ⟨rfl, rfl⟩)
      | ((with_reducible refine (I5.out _).mono ?_); rintro e w' ⟨rfl, rfl⟩))
    go_ret
    exact ⟨rfl, hb0⟩
  cases e6 : inB6 (f 6) 1 (f 4 - 1)
  case false =>
    have e := E.out
    rw [e0, e1, e2, e3, e4, e5, e6] at e
    have I0 := Lib.hid (fun W => refIn_any _ _ _ W _ e0)
    have I1 := Lib.hid (fun W => refIn_any _ _ _ W _ e1)
    have I2 := Lib.hid (fun W => refIn_any _ _ _ W _ e2)
    have I3 := Lib.hid (fun W => refIn_any _ _ _ W _ e3)
    have I4 := Lib.hid (fun W => refIn_any _ _ _ W _ e4)
    have I5 := Lib.hid (fun W => refIn_any _ _ _ W _ e5)
    have I6 := Lib.hid (fun W => refIn_any _ _ _ W _ e6)
    obtain rfl : r = false := e
    clear E e0 e1 e2 e3 e4 e5 e6
    go_enter Tryz.func90, Tryz.ntmps90
    go_wp2_with (go_at_call 132; first
      | ((with_reducible refine (I0.out _).mono ?_); rintro e w' ⟨rfl, rfl⟩)
      | ((with_reducible refine (I1.out _).mono ?_); rintro e w' ⟨rfl, rfl⟩)
      | ((with_reducible refine (I2.out _).mono ?_); rintro e w' ⟨rfl, rfl⟩)
      | ((with_reducible refine (I3.out _).mono ?_); rintro e w' ⟨rfl, rfl⟩)
      | ((with_reducible refine (I4.out _).mono ?_); rintro e w' ⟨rfl, rfl⟩)
      | ((with_reducible refine (I5.out _).mono ?_); rintro e w' ⟨rfl, rfl⟩)
      | ((with_reducible refine (I6.out _).mono ?_); rintro e w' ⟨rfl, rfl⟩))
    go_ret
    exact ⟨rfl, hb0⟩
  cases e7 : inB6 (f 7) 1 (f 4 - 1)
  case false =>
    have e := E.out
    rw [e0, e1, e2, e3, e4, e5, e6, e7] at e
    have I0 := Lib.hid (fun W => refIn_any _ _ _ W _ e0)
    have I1 := Lib.hid (fun W => refIn_any _ _ _ W _ e1)
    have I2 := Lib.hid (fun W => refIn_any _ _ _ W _ e2)
    have I3 := Lib.hid (fun W => refIn_any _ _ _ W _ e3)
    have I4 := Lib.hid (fun W => refIn_any _ _ _ W _ e4)
    have I5 := Lib.hid (fun W => refIn_any _ _ _ W _ e5)
    have I6 := Lib.hid (fun W => refIn_any _ _ _ W _ e6)
    have I7 := Lib.hid (fun W => refIn_any _ _ _ W _ e7)
    obtain rfl : r = false := e
    clear E e0 e1 e2 e3 e4 e5 e6 e7
    go_enter Tryz.func90, Tryz.ntmps90
    go_wp2_with (go_at_call 132; first
      | ((with_reducible refine (I0.out _).mono ?_); rintro e w' ⟨rfl, rfl⟩)
      | ((with_reducible refine (I1.out _).mono ?_); rintro e w' ⟨rfl, rfl⟩)
      | ((with_reducible refine (I2.out _).mono ?_); rintro e w' ⟨rfl, rfl⟩)
      | ((with_reducible refine (I3.out _).mono ?_); rintro e w' ⟨rfl, rfl⟩)
      | ((with_reducible refine (I4.out _).mono ?_); rintro e w' ⟨rfl, rfl⟩)
      | ((with_reducible refine (I5.out _).mono ?_); rintro e w' ⟨rfl, rfl⟩)
      | ((with_reducible refine (I6.out _).mono ?_); rintro e w' ⟨rfl, rfl⟩)
      | ((with_reducible refine (I7.out _).mono ?_); rintro e w' ⟨rfl, rfl⟩))
    go_ret
    exact ⟨rfl, hb0⟩
  cases e8 : inB6 (f 8) 1 (f 4 - 1)
  case false =>
    have e := E.out
    rw [e0, e1, e2, e3, e4, e5, e6, e7, e8] at e
    have I0 := Lib.hid (fun W => refIn_any _ _ _ W _ e0)
    have I1 := Lib.hid (fun W => refIn_any _ _ _ W _ e1)
    have I2 := Lib.hid (fun W => refIn_any _ _ _ W _ e2)
    have I3 := Lib.hid (fun W => refIn_any _ _ _ W _ e3)
    have I4 := Lib.hid (fun W => refIn_any _ _ _ W _ e4)
    have I5 := Lib.hid (fun W => refIn_any _ _ _ W _ e5)
    have I6 := Lib.hid (fun W => refIn_any _ _ _ W _ e6)
    have I7 := Lib.hid (fun W => refIn_any _ _ _ W _ e7)
    have I8 := Lib.hid (fun W => refIn_any _ _ _ W _ e8)
    obtain rfl : r = false := e
    clear E e0 e1 e2 e3 e4 e5 e6 e7 e8
    go_enter Tryz.func90, Tryz.ntmps90
    go_wp2_with (go_at_call 132; first
      | ((with_reducible refine (I0.out _).mono ?_); rintro e w' ⟨rfl, rfl⟩)
      | ((with_reducible refine (I1.out _).mono ?_); rintro e w' ⟨rfl, rfl⟩)
      | ((with_reducible refine (I2.out _).mono ?_); rintro e w' ⟨rfl, rfl⟩)
      | ((with_reducible refine (I3.out _).mono ?_); rintro e w' ⟨rfl, rfl⟩)
      | ((with_reducible refine (I4.out _).mono ?_); rintro e w' ⟨rfl, rfl⟩)
      | ((with_reducible refine (I5.out _).mono ?_); rintro e w' ⟨rfl, rfl⟩)
      | ((with_reducible refine (I6.out _).mono ?_); rintro e w' ⟨rfl, rfl⟩)
      | ((with_reducible refine (I7.out _).mono ?_); rintro e w' ⟨rfl, rfl⟩)
      | ((with_reducible refine (I8.out _).mono ?_); rintro e w' ⟨rfl, rfl⟩))
    go_ret
    exact ⟨rfl, hb0⟩
  cases e9 : inB6 (f 9) 1 (f 4 - 1)
  case false =>
    have e := E.out
    rw [e0, e1, e2, e3, e4, e5, e6, e7, e8, e9] at e
    have I0 := Lib.hid (fun W => refIn_any _ _ _ W _ e0)
    have I1 := Lib.hid (fun W => refIn_any _ _ _ W _ e1)
    have I2 := Lib.hid (fun W => refIn_any _ _ _ W _ e2)
    have I3 := Lib.hid (fun W => refIn_any _ _ _ W _ e3)
    have I4 := Lib.hid (fun W => refIn_any _ _ _ W _ e4)
    have I5 := Lib.hid (fun W => refIn_any _ _ _ W _ e5)
    have I6 := Lib.hid (fun W => refIn_any _ _ _ W _ e6)
    have I7 := Lib.hid (fun W => refIn_any _ _ _ W _ e7)
    have I8 := Lib.hid (fun W => refIn_any _ _ _ W _ e8)
    have I9 := Lib.hid (fun W => refIn_any _ _ _ W _ e9)
    obtain rfl : r = false := e
    clear E e0 e1 e2 e3 e4 e5 e6 e7 e8 e9
    go_enter Tryz.func90, Tryz.ntmps90
    go_wp2_with (go_at_call 132; first
      | ((with_reducible refine (I0.out _).mono ?_); rintro e w' ⟨rfl, rfl⟩)
      | ((with_reducible refine (I1.out _).mono ?_); rintro e w' ⟨rfl, rfl⟩)
      | ((with_reducible refine (I2.out _).mono ?_); rintro e w' ⟨rfl, rfl⟩)
      | ((with_reducible refine (I3.out _).mono ?_); rintro e w' ⟨rfl, rfl⟩)
      | ((with_reducible refine (I4.out _).mono ?_); rintro e w' ⟨rfl, rfl⟩)
      | ((with_reducible refine (I5.out _).mono ?_); rintro e w' ⟨rfl, rfl⟩)
      | ((with_reducible refine (I6.out _).mono ?_); rintro e w' ⟨rfl, rfl⟩)
      | ((with_reducible refine (I7.out _).mono ?_); rintro e w' ⟨rfl, rfl⟩)
      | ((with_reducible refine (I8.out _).mono ?_); rintro e w' ⟨rfl, rfl⟩)
      | ((with_reducible refine (I9.out _).mono ?_); rintro e w' ⟨rfl, rfl⟩))
    go_ret
    exact ⟨rfl, hb0⟩
  cases e10 : inB6 (f 10) 1 (f 4 - 1)
  case false =>
    have e := E.out
    rw [e0, e1, e2, e3, e4, e5, e6, e7, e8, e9, e10] at e
    have I0 := Lib.hid (fun W => refIn_any _ _ _ W _ e0)
    have I1 := Lib.hid (fun W => refIn_any _ _ _ W _ e1)
    have I2 := Lib.hid (fun W => refIn_any _ _ _ W _ e2)
    have I3 := Lib.hid (fun W => refIn_any _ _ _ W _ e3)
    have I4 := Lib.hid (fun W => refIn_any _ _ _ W _ e4)
    have I5 := Lib.hid (fun W => refIn_any _ _ _ W _ e5)
    have I6 := Lib.hid (fun W => refIn_any _ _ _ W _ e6)
    have I7 := Lib.hid (fun W => refIn_any _ _ _ W _ e7)
    have I8 := Lib.hid (fun W => refIn_any _ _ _ W _ e8)
    have I9 := Lib.hid (fun W => refIn_any _ _ _ W _ e9)
    have I10 := Lib.hid (fun W => refIn_any _ _ _ W _ e10)
    obtain rfl : r = false := e
    clear E e0 e1 e2 e3 e4 e5 e6 e7 e8 e9 e10
    go_enter Tryz.func90, Tryz.ntmps90
    go_wp2_with (go_at_call 132; first
      | ((with_reducible refine (I0.out _).mono ?_); rintro e w' ⟨rfl, rfl⟩)
      | ((with_reducible refine (I1.out _).mono ?_); rintro e w' ⟨rfl, rfl⟩)
      | ((with_reducible refine (I2.out _).mono ?_); rintro e w' ⟨rfl, rfl⟩)
      | ((with_reducible refine (I3.out _).mono ?_); rintro e w' ⟨rfl, rfl⟩)
      | ((with_reducible refine (I4.out _).mono ?_); rintro e w' ⟨rfl, rfl⟩)
      | ((with_reducible refine (I5.out _).mono ?_); rintro e w' ⟨rfl, rfl⟩)
      | ((with_reducible refine (I6.out _).mono ?_); rintro e w' ⟨rfl, rfl⟩)
      | ((with_reducible refine (I7.out _).mono ?_); rintro e w' ⟨rfl, rfl⟩)
      | ((with_reducible refine (I8.out _).mono ?_); rintro e w' ⟨rfl, rfl⟩)
      | ((with_reducible refine (I9.out _).mono ?_); rintro e w' ⟨rfl, rfl⟩)
      | ((with_reducible refine (I10.out _).mono ?_); rintro e w' ⟨rfl, rfl⟩))
    go_ret
    exact ⟨rfl, hb0⟩
  have e := E.out
  rw [e0, e1, e2, e3, e4, e5, e6, e7, e8, e9, e10] at e
  have I0 := Lib.hid (fun W => refIn_any _ _ _ W _ e0)
  have I1 := Lib.hid (fun W => refIn_any _ _ _ W _ e1)
  have I2 := Lib.hid (fun W => refIn_any _ _ _ W _ e2)
  have I3 := Lib.hid (fun W => refIn_any _ _ _ W _ e3)
  have I4 := Lib.hid (fun W => refIn_any _ _ _ W _ e4)
  have I5 := Lib.hid (fun W => refIn_any _ _ _ W _ e5)
  have I6 := Lib.hid (fun W => refIn_any _ _ _ W _ e6)
  have I7 := Lib.hid (fun W => refIn_any _ _ _ W _ e7)
  have I8 := Lib.hid (fun W => refIn_any _ _ _ W _ e8)
  have I9 := Lib.hid (fun W => refIn_any _ _ _ W _ e9)
  have I10 := Lib.hid (fun W => refIn_any _ _ _ W _ e10)
  obtain rfl : r = true := e
  clear E e0 e1 e2 e3 e4 e5 e6 e7 e8 e9 e10
  go_enter Tryz.func90, Tryz.ntmps90
  go_wp2_with (go_at_call 132; first
    | ((with_reducible refine (I0.out _).mono ?_); rintro e w' ⟨rfl, rfl⟩)
    | ((with_reducible refine (I1.out _).mono ?_); rintro e w' ⟨rfl, rfl⟩)
    | ((with_reducible refine (I2.out _).mono ?_); rintro e w' ⟨rfl, rfl⟩)
    | ((with_reducible refine (I3.out _).mono ?_); rintro e w' ⟨rfl, rfl⟩)
    | ((with_reducible refine (I4.out _).mono ?_); rintro e w' ⟨rfl, rfl⟩)
    | ((with_reducible refine (I5.out _).mono ?_); rintro e w' ⟨rfl, rfl⟩)
    | ((with_reducible refine (I6.out _).mono ?_); rintro e w' ⟨rfl, rfl⟩)
    | ((with_reducible refine (I7.out _).mono ?_); rintro e w' ⟨rfl, rfl⟩)
    | ((with_reducible refine (I8.out _).mono ?_); rintro e w' ⟨rfl, rfl⟩)
    | ((with_reducible refine (I9.out _).mono ?_); rintro e w' ⟨rfl, rfl⟩)
    | ((with_reducible refine (I10.out _).mono ?_); rintro e w' ⟨rfl, rfl⟩))
  go_ret
  exact ⟨rfl, hb0⟩

end Go.Proofs.YtbeobbanppkmhaaGreatDoor

/-
  Layer 6's Read: the action that decodes the fields.
-/
namespace Go.Proofs.YtbeobbanppkmhaaGreatDoor
open Go.RowKit
set_option linter.unusedVariables false
set_option linter.unusedSimpArgs false

set_option maxRecDepth 100000 in
set_option maxHeartbeats 1600000 in
theorem visit_any2 (w : World) (p F : Nat) (cap cap2 : Value) (X : Int) (hF : ∀ (args : Array Value) (W : World), (callFunc F args).run Tryz.prog W = .ok (.enter F args) W) (I : Nat → World → Prop)
    (hX : ∀ k W, 5 ≤ k → I k W → W.cell? ⟨p, 4, none⟩ = some (.int .i64 X))
    (hB : ∀ k W W', I k W → Below W.heap.size W W' → I k W')
    (hS : ∀ k W, k < 11 → I k W → Calls Tryz.prog F #[.pointer (some ⟨p, k, none⟩), .int .i64 (loV k), .int .i64 (hiV (wrap64 (X - 1)) k), cap, cap2] W fun e W' => e = .returned (.tuple #[]) ∧ I (k + 1) W' ∧ Ptrs W W')
    (h0 : I 0 w) :
    Calls Tryz.prog 80 #[.pointer (some ⟨p, 0, none⟩), .func (.func F) #[] #[cap, cap2]] w fun e w' => e = .returned (.tuple #[]) ∧ I 11 w' := by
  have HX := Lib.hid hX
  have HB := Lib.hid hB
  have HS := Lib.hid hS
  have S0 := Lib.hid (show ∀ W, I 0 W → Calls Tryz.prog F #[.pointer (some ⟨p, 0, none⟩), .int .i64 0, .int .i64 2147483647, cap, cap2] W fun e W' => e = .returned (.tuple #[]) ∧ I 1 W' ∧ Ptrs W W' from fun W h => hS 0 W (by omega) h)
  have S1 := Lib.hid (show ∀ W, I 1 W → Calls Tryz.prog F #[.pointer (some ⟨p, 1, none⟩), .int .i64 0, .int .i64 16777215, cap, cap2] W fun e W' => e = .returned (.tuple #[]) ∧ I 2 W' ∧ Ptrs W W' from fun W h => hS 1 W (by omega) h)
  have S2 := Lib.hid (show ∀ W, I 2 W → Calls Tryz.prog F #[.pointer (some ⟨p, 2, none⟩), .int .i64 1, .int .i64 65536, cap, cap2] W fun e W' => e = .returned (.tuple #[]) ∧ I 3 W' ∧ Ptrs W W' from fun W h => hS 2 W (by omega) h)
  have S3 := Lib.hid (show ∀ W, I 3 W → Calls Tryz.prog F #[.pointer (some ⟨p, 3, none⟩), .int .i64 0, .int .i64 65536, cap, cap2] W fun e W' => e = .returned (.tuple #[]) ∧ I 4 W' ∧ Ptrs W W' from fun W h => hS 3 W (by omega) h)
  have S4 := Lib.hid (show ∀ W, I 4 W → Calls Tryz.prog F #[.pointer (some ⟨p, 4, none⟩), .int .i64 2, .int .i64 14400, cap, cap2] W fun e W' => e = .returned (.tuple #[]) ∧ I 5 W' ∧ Ptrs W W' from fun W h => hS 4 W (by omega) h)
  have S5 := Lib.hid (show ∀ j W, j < 6 → I (5 + j) W → Calls Tryz.prog F #[.pointer (some ⟨p, 5 + j, none⟩), .int .i64 1, .int .i64 (wrap64 (X - 1)), cap, cap2] W fun e W' => e = .returned (.tuple #[]) ∧ I (5 + j + 1) W' ∧ Ptrs W W' from fun j W hj h => by
    have := hS (5 + j) W (by omega) h
    rcases (show j = 0 ∨ j = 1 ∨ j = 2 ∨ j = 3 ∨ j = 4 ∨ j = 5 by omega) with rfl | rfl | rfl | rfl | rfl | rfl
    all_goals exact this)
  clear hX hB hS HS
  go_enter Tryz.func80, Tryz.ntmps80
  go_wp2_with (first
    | ((with_reducible refine (S4.out _ h4).mono ?_); rintro e w5 ⟨rfl, h5, _⟩)
    | ((with_reducible refine (S3.out _ h3).mono ?_); rintro e w4 ⟨rfl, h4, _⟩)
    | ((with_reducible refine (S2.out _ h2).mono ?_); rintro e w3 ⟨rfl, h3, _⟩)
    | ((with_reducible refine (S1.out _ h1).mono ?_); rintro e w2 ⟨rfl, h2, _⟩)
    | ((with_reducible refine (S0.out _ h0).mono ?_); rintro e w1 ⟨rfl, h1, _⟩))
  go_region
  go_wp2
  have hb6 : Below w5.heap.size w5 (w5.alloc (.cells (rootP p).toArray 152)).drew := ((Below.refl _ _).alloc (Nat.le_refl _) _).drew
  have H6 := Lib.hid (HB.out 5 _ _ h5 hb6)
  have HR6 : Hid ((w5.alloc (.cells (rootP p).toArray 152)).drew.heap[w5.heap.size]? = some (.cells (rootP p).toArray 152 (0, 0))) := heap_alloc_new w5 (.cells (rootP p).toArray 152)
  generalize w5.heap.size = g at *
  clear h0 h1 h2 h3 h4 h5 hb6 S0 S1 S2 S3 S4
  go_loopw [53] (fun i wr => ∃ j : Nat, j ≤ 6 ∧ i = .int .i64 j ∧ Hid (I (5 + j) wr) ∧ Hid (wr.heap[g]? = some (.cells (rootP p).toArray 152 (0, 0)))) (fun i _ => 6 - (intOf i).toNat)
  case atStart => exact ⟨0, by omega, rfl, H6, HR6⟩
  case round =>
    clear H6 HR6
    obtain ⟨j, hj, rfl, HI, HR⟩ := hrel
    by_cases hlt : j < 6
    · have hX4 := HX.out _ _ (by omega) HI.out
      have hcj : wr.cell? ⟨g, j, none⟩ = some (.pointer (some ⟨p, 5 + j, none⟩)) := by
        rw [cell_of_row wr g j _ _ _ HR.out]
        rcases (show j = 0 ∨ j = 1 ∨ j = 2 ∨ j = 3 ∨ j = 4 ∨ j = 5 by omega) with rfl | rfl | rfl | rfl | rfl | rfl <;> rfl
      go_wp2_with ((with_reducible refine (S5.out j _ hlt HI.out).mono ?_); rintro e w7 ⟨rfl, h7, hp7⟩; have HI7 := Lib.hid h7; have HR7 := Lib.hid (hp7 _ _ _ HR.out); clear h7 hp7)
      go_roundw
      case rel => exact ⟨j + 1, by omega, by go_num, HI7, HR7⟩
      case measure => simp [intOf]; omega
    · obtain rfl : j = 6 := by omega
      go_wp2
      go_end0
      exact ⟨rfl, HI.out⟩


/-- the fields that lie in the bytes -/
def readF (l : List UInt8) : Nat → Int := fun k => getN l ((12 + 4 * k : Nat) : Int) 4
/-- the first k of them, and zeros -/
def readK (l : List UInt8) (k : Nat) : Nat → Int := fun j => if j < k then readF l j else 0

theorem supC_congr {f g : Nat → Int} (h : ∀ k, k < 11 → f k = g k) : supC f = supC g := by
  simp only [supC, h 0 (by omega), h 1 (by omega), h 2 (by omega), h 3 (by omega), h 4 (by omega), h 5 (by omega), h 6 (by omega), h 7 (by omega), h 8 (by omega), h 9 (by omega), h 10 (by omega)]

theorem supC_set (f : Nat → Int) (x : Int) {k : Nat} (hk : k < 11) : (supC f).setIfInBounds k (.int .i64 x) = supC (fun j => if j = k then x else f j) := by
  rcases (show k = 0 ∨ k = 1 ∨ k = 2 ∨ k = 3 ∨ k = 4 ∨ k = 5 ∨ k = 6 ∨ k = 7 ∨ k = 8 ∨ k = 9 ∨ k = 10 by omega) with rfl | rfl | rfl | rfl | rfl | rfl | rfl | rfl | rfl | rfl | rfl <;> rfl

theorem SupAt.set {w : World} {p : Nat} {f : Nat → Int} (h : SupAt w p f) {k : Nat} (hk : k < 11) (x : Int) : SupAt (w.setCell ⟨p, k, none⟩ (.int .i64 x)) p (fun j => if j = k then x else f j) := by
  rw [SupAt, heap_setCell_same w p k _ _ _ h, supC_set f x hk]

set_option maxRecDepth 100000 in
set_option maxHeartbeats 400000 in
theorem gact_any (w : World) (p k gi ga : Nat) (f : Nat → Int) (at_ : Nat) (lo hi : Int) (A : Option Addr) (n c : Nat) (l : List UInt8) (hk : k < 11) (hp : SupAt w p f) (hi_ : w.heap[gi]? = some (.cells #[.slice A n c] 22 (0, 0)))
    (ha : w.heap[ga]? = some (.cells #[.int .i64 (at_ : Int)] 3 (0, 0))) (hB : Bytes8 w A n c l) (hat : at_ ≤ 1000) (hpa : p ≠ ga) :
    Calls Tryz.prog 81 #[.pointer (some ⟨p, k, none⟩), .int .i64 lo, .int .i64 hi, .pointer (some ⟨gi, 0, none⟩), .pointer (some ⟨ga, 0, none⟩)] w fun e w' => e = .returned (.tuple #[]) ∧
      ∃ w1, Below w.heap.size w w1 ∧ w' = (w1.setCell ⟨p, k, none⟩ (.int .i64 (getN l at_ 4))).setCell ⟨ga, 0, none⟩ (.int .i64 ((at_ + 4 : Nat) : Int)) := by
  have G := Lib.hid (Get_any A n c l at_ 4 w hB (by omega))
  have ci : w.cell? ⟨gi, 0, none⟩ = some (.slice A n c) := by rw [cell_of_row w gi 0 _ _ _ hi_]; rfl
  have ca : w.cell? ⟨ga, 0, none⟩ = some (.int .i64 (at_ : Int)) := by rw [cell_of_row w ga 0 _ _ _ ha]; rfl
  have HP := Lib.hid hp
  have HA := Lib.hid ha
  generalize getN l at_ 4 = x at *
  generalize getE l at_ 4 = y at *
  clear hp ha hi_ hB
  go_enter Tryz.func81, Tryz.ntmps81
  go_wp2_with (go_at_call 82; (with_reducible refine (G.out).mono ?_); rintro e w1 ⟨rfl, hb1⟩; have hp1 := (hb1.block p (block_lt HP.out)).trans HP.out; have ha1 := (hb1.block ga (block_lt HA.out)).trans HA.out; have cp1 := SupAt.cell (f := f) hp1 hk; have fp1 := Lib.frozen_of_heap hp1 k; have ca1 : (w1.setCell ⟨p, k, none⟩ (.int .i64 x)).cell? ⟨ga, 0, none⟩ = some (.int .i64 (at_ : Int)) := (by rw [cell_of_row _ ga 0 _ _ _ ((heap_setCell_other w1 ⟨p, k, none⟩ ga _ (fun e => hpa e.symm)).trans ha1)]; rfl); have fa1 := Lib.frozen_of_heap ha1 0; have cb1 : w1.cell? ⟨ga, 0, none⟩ = some (.int .i64 (at_ : Int)) := (by rw [cell_of_row _ ga 0 _ _ _ ha1]; rfl))
  go_end0
  refine ⟨rfl, w1, hb1, ?_⟩
  rfl

/-- what Read's action keeps -/
structure ReadI (w0 w : World) (p gi ga r : Nat) (A : Option Addr) (n c : Nat) (l : List UInt8) (k : Nat) : Prop where
  bel : Below w0.heap.size w0 w
  sup : SupAt w p (readK l k)
  inn : w.heap[gi]? = some (Obj.cells #[.slice A n c] 22 (0, 0))
  at_ : w.heap[ga]? = some (Obj.cells #[.int .i64 ((12 + 4 * k : Nat) : Int)] 3 (0, 0))
  res : SupAt w r (fun _ => 0)

theorem callF19 (args : Array Value) (W : World) : (callFunc 81 args).run Tryz.prog W = .ok (.enter 81 args) W := by kernel_rfl

theorem read_visit {w0 w : World} {p gi ga r : Nat} {A : Option Addr} {n c : Nat} {l : List UInt8} (hB : Bytes8 w0 A n c l) (h1 : w0.heap.size ≤ p) (h2 : w0.heap.size ≤ ga) (hpg : p ≠ ga) (hpi : gi ≠ p) (hai : gi ≠ ga) (hrp : r ≠ p) (hra : r ≠ ga) (h : ReadI w0 w p gi ga r A n c l 0) :
    Calls Tryz.prog 80 #[.pointer (some ⟨p, 0, none⟩), .func (.func 81) #[] #[.pointer (some ⟨gi, 0, none⟩), .pointer (some ⟨ga, 0, none⟩)]] w fun e w' => e = .returned (.tuple #[]) ∧ ReadI w0 w' p gi ga r A n c l 11 := by
  refine visit_any2 w p 81 (.pointer (some ⟨gi, 0, none⟩)) (.pointer (some ⟨ga, 0, none⟩)) (readF l 4) callF19 (fun k W => ReadI w0 W p gi ga r A n c l k) ?_ ?_ ?_ h
  · intro k W hk hI
    have := hI.sup.cell (k := 4) (by omega)
    rwa [readK, if_pos (by omega)] at this
  · intro k W W' hI hb
    exact ⟨hI.bel.trans (hb.mono hI.bel.size), (hb.block p (block_lt hI.sup)).trans hI.sup, (hb.block gi (block_lt hI.inn)).trans hI.inn, (hb.block ga (block_lt hI.at_)).trans hI.at_, (hb.block r (block_lt hI.res)).trans hI.res⟩
  · intro k W hk hI
    refine (gact_any W p k gi ga _ (12 + 4 * k) _ _ A n c l hk hI.sup hI.inn hI.at_ (hB.below hI.bel) (by omega) hpg).mono ?_
    rintro e W' ⟨rfl, W1, hb, rfl⟩
    have s1 : SupAt W1 p (readK l k) := (hb.block p (block_lt hI.sup)).trans hI.sup
    have a1 := (hb.block ga (block_lt hI.at_)).trans hI.at_
    have i1 := (hb.block gi (block_lt hI.inn)).trans hI.inn
    have a2 : (W1.setCell ⟨p, k, none⟩ (.int .i64 (getN l (12 + 4 * k : Nat) 4))).heap[ga]? = _ := (heap_setCell_other W1 ⟨p, k, none⟩ ga _ (fun e => hpg e.symm)).trans a1
    refine ⟨rfl, ⟨?_, ?_, ?_, ?_, ?_⟩, ((Ptrs.of_below hb).trans (Ptrs.set s1 (by decide) k _)).trans (Ptrs.set a2 (by decide) 0 _)⟩
    · exact ((hI.bel.trans (hb.mono hI.bel.size)).setCell (p := ⟨p, k, none⟩) h1 _).setCell (p := ⟨ga, 0, none⟩) h2 _
    · rw [SupAt, heap_setCell_other _ ⟨ga, 0, none⟩ p _ hpg, s1.set hk, ]
      congr 2
      apply supC_congr
      intro j hj
      simp only [readK]
      by_cases e : j = k
      · subst e; rw [if_pos rfl, if_pos (by omega)]; rfl
      · rw [if_neg e]
        by_cases e2 : j < k
        · rw [if_pos e2, if_pos (by omega)]
        · rw [if_neg e2, if_neg (by omega)]
    · rw [heap_setCell_other _ ⟨ga, 0, none⟩ gi _ hai, heap_setCell_other _ ⟨p, k, none⟩ gi _ hpi]
      exact i1
    · exact one_setCell a2
    · rw [SupAt, heap_setCell_other _ ⟨ga, 0, none⟩ r _ hra, heap_setCell_other _ ⟨p, k, none⟩ r _ hrp]
      exact (hb.block r (block_lt hI.res)).trans hI.res

end Go.Proofs.YtbeobbanppkmhaaGreatDoor

/-
  Layer 6's Read.
-/
namespace Go.Proofs.YtbeobbanppkmhaaGreatDoor
open Go.RowKit
set_option linter.unusedVariables false
set_option linter.unusedSimpArgs false

set_option maxRecDepth 100000 in
set_option maxHeartbeats 400000 in
theorem Equal_any (A1 : Option Addr) (n1 c1 : Nat) (l1 : List UInt8) (A2 : Option Addr) (n2 c2 : Nat) (l2 : List UInt8) (w : World) (h1 : Bytes8 w A1 n1 c1 l1) (h2 : Bytes8 w A2 n2 c2 l2) (r : Bool) (hr : decide (l1 = l2) = r) :
    Calls Tryz.prog 84 #[.slice A1 n1 c1, .slice A2 n2 c2] w fun e w' => e = .returned (.bool r) ∧ w = w' := by
  have cv1 := run_str h1
  have cv2 := run_str h2
  clear h1 h2
  go_enter Tryz.func84, Tryz.ntmps84
  go_wp2
  go_ret
  exact ⟨ret_bool (by rw [← hr, Bool.eq_iff_iff]; simp), rfl⟩

/-- what Read answers -/
def readE (l : List UInt8) : Int := if allB (readF l) 11 = true ∧ encS (readF l) = l then 0 else 7
def readS (l : List UInt8) : Nat → Int := if readE l = 0 then readF l else fun _ => 0

theorem results_sup {fn : Func} {p u : Tmp} (h : fn.results = #[.cell p 29, .tmp u]) (tmps : Array Value) (w : World) (g : Nat) (f : Nat → Int)
    (hp : tmps.getD p undef = .pointer (some ⟨g, 0, none⟩)) (hg : SupAt w g f) : (results fn tmps).run Tryz.prog w = .ok (.tuple #[supV f, tmps.getD u undef]) w := by
  rw [results_cell_tmp h, hp]
  simp [asAddr, run_loadVar_row w g _ _ _ _ _ hg Tryz.underlying29 rfl (by kernel_rfl), Result.andThen, supV]

theorem SupAt.store {w : World} {g : Nat} {f : Nat → Int} (hs : SupAt w g f) (h : Nat → Int) : SupAt (((((((((((w.setCell ⟨g, 0, none⟩ (.int .i64 (h 0))).setCell ⟨g, 1, none⟩ (.int .i64 (h 1))).setCell ⟨g, 2, none⟩ (.int .i64 (h 2))).setCell ⟨g, 3, none⟩ (.int .i64 (h 3))).setCell ⟨g, 4, none⟩ (.int .i64 (h 4))).setCell ⟨g, 5, none⟩ (.int .i64 (h 5))).setCell ⟨g, 6, none⟩ (.int .i64 (h 6))).setCell ⟨g, 7, none⟩ (.int .i64 (h 7))).setCell ⟨g, 8, none⟩ (.int .i64 (h 8))).setCell ⟨g, 9, none⟩ (.int .i64 (h 9))).setCell ⟨g, 10, none⟩ (.int .i64 (h 10))) g h := by
  have := ((((((((((hs.set (k := 0) (by omega) (h 0)).set (k := 1) (by omega) (h 1)).set (k := 2) (by omega) (h 2)).set (k := 3) (by omega) (h 3)).set (k := 4) (by omega) (h 4)).set (k := 5) (by omega) (h 5)).set (k := 6) (by omega) (h 6)).set (k := 7) (by omega) (h 7)).set (k := 8) (by omega) (h 8)).set (k := 9) (by omega) (h 9)).set (k := 10) (by omega) (h 10)
  exact this

theorem below_store {B g : Nat} {w0 w : World} (hb : Below B w0 w) (hg : B ≤ g) (v0 v1 v2 v3 v4 v5 v6 v7 v8 v9 v10 : Value) : Below B w0 (((((((((((w.setCell ⟨g, 0, none⟩ v0).setCell ⟨g, 1, none⟩ v1).setCell ⟨g, 2, none⟩ v2).setCell ⟨g, 3, none⟩ v3).setCell ⟨g, 4, none⟩ v4).setCell ⟨g, 5, none⟩ v5).setCell ⟨g, 6, none⟩ v6).setCell ⟨g, 7, none⟩ v7).setCell ⟨g, 8, none⟩ v8).setCell ⟨g, 9, none⟩ v9).setCell ⟨g, 10, none⟩ v10) :=
  ((((((((((hb.setCell (p := ⟨g, 0, none⟩) hg _).setCell (p := ⟨g, 1, none⟩) hg _).setCell (p := ⟨g, 2, none⟩) hg _).setCell (p := ⟨g, 3, none⟩) hg _).setCell (p := ⟨g, 4, none⟩) hg _).setCell (p := ⟨g, 5, none⟩) hg _).setCell (p := ⟨g, 6, none⟩) hg _).setCell (p := ⟨g, 7, none⟩) hg _).setCell (p := ⟨g, 8, none⟩) hg _).setCell (p := ⟨g, 9, none⟩) hg _).setCell (p := ⟨g, 10, none⟩) hg _

theorem four_new (w : World) (o1 o2 o3 o4 : Obj) : ((((w.alloc o1).alloc o2).alloc o3).alloc o4).heap[w.heap.size]? = some o1 ∧ ((((w.alloc o1).alloc o2).alloc o3).alloc o4).heap[w.heap.size + 1]? = some o2 ∧ ((((w.alloc o1).alloc o2).alloc o3).alloc o4).heap[w.heap.size + 2]? = some o3 ∧ ((((w.alloc o1).alloc o2).alloc o3).alloc o4).heap[w.heap.size + 3]? = some o4 ∧ Below w.heap.size w ((((w.alloc o1).alloc o2).alloc o3).alloc o4) := by
  obtain ⟨a1, a2, a3⟩ := two_new w o1 o2
  obtain ⟨b1, b2, b3⟩ := two_new ((w.alloc o1).alloc o2) o3 o4
  have hs : ((w.alloc o1).alloc o2).heap.size = w.heap.size + 2 := by simp
  rw [hs] at b1 b2 b3
  exact ⟨(b3.block _ (by omega)).trans a1, (b3.block _ (by omega)).trans a2, b1, b2, a3.trans (b3.mono (by omega))⟩

set_option maxRecDepth 100000 in
set_option maxHeartbeats 1600000 in
theorem SRead_any (A : Option Addr) (n c : Nat) (l : List UInt8) (w : World) (h : Bytes8 w A n c l) :
    Calls Tryz.prog 35 #[.slice A n c] w fun e w' => e = .returned (.tuple #[supV (readS l), .int .i64 (readE l)]) ∧ Below w.heap.size w w' := by
  have hmf : ∀ (fn : Fn) (first cap : Array Value) (w : World), (Instr.makeFunc fn first cap).run Tryz.prog w = .ok (.func fn first cap) w := fun _ _ _ _ => rfl
  obtain ⟨t1, t2, t3, t4, tb⟩ := four_new w (.cells #[.slice A n c] 22) (.cells (supC fun _ => 0) 29) (.cells (supC fun _ => 0) 29) (.cells #[.int .i64 12] 3)
  have hk0 : supC (readK l 0) = supC fun _ => 0 := supC_congr fun k _ => by rw [readK, if_neg (by omega)]
  have V : Hid (Calls Tryz.prog 80 #[.pointer (some ⟨w.heap.size + 2, 0, none⟩), .func (.func 81) #[] #[.pointer (some ⟨w.heap.size, 0, none⟩), .pointer (some ⟨w.heap.size + 3, 0, none⟩)]]
      ((((w.alloc (.cells #[.slice A n c] 22)).alloc (.cells (supC fun _ => 0) 29)).alloc (.cells (supC fun _ => 0) 29)).alloc (.cells #[.int .i64 12] 3)) fun e w' => e = .returned (.tuple #[]) ∧
      Below w.heap.size w w' ∧ SupAt w' (w.heap.size + 1 + 1) (readF l) ∧ SupAt w' (w.heap.size + 1) (fun _ => 0) ∧ w'.heap[w.heap.size]? = some (Obj.cells #[.slice A n c] 22 (0, 0))) :=
    (read_visit (gi := w.heap.size) (p := w.heap.size + 2) (ga := w.heap.size + 3) (r := w.heap.size + 1) h (by omega) (by omega) (by omega) (by omega) (by omega) (by omega) (by omega) ⟨tb, by rw [SupAt, hk0]; exact t3, t1, t4, t2⟩).mono fun e w' ⟨h1, hI⟩ => by
      have hs := hI.sup
      rw [SupAt, supC_congr (g := readF l) fun k hk => by rw [readK, if_pos hk]] at hs
      exact ⟨h1, hI.bel, hs, hI.res, hI.inn⟩
  have HB := Lib.hid h
  clear t1 t2 t3 t4 tb hk0 h
  have P : Hid (∀ W, Calls Tryz.prog 83 #[supV (readF l)] W fun e w' => ∃ A m c, e = .returned (.tuple #[.slice A m c, .int .i64 (putSE (readF l))]) ∧ Bytes8 w' A m c (putSB (readF l)) ∧ Below W.heap.size W w') := fun W => SPut_any W _
  simp only [supC] at V
  simp only [supV, supC] at P
  cases hr : allB (readF l) 11 with
  | false =>
    have e1 : readE l = 7 := by rw [readE, if_neg (by simp [hr])]
    have e2 : readS l = fun _ => 0 := by rw [readS, if_neg (by rw [e1]; omega)]
    have e3 : putSE (readF l) = 1 := by rw [putSE, if_neg (by simp [hr])]
    rw [e1, e2]
    rw [e3] at P
    clear e1 e2 e3 hr
    go_enter Tryz.func35, Tryz.ntmps35
    go_wp2_with (first
      | (go_at_call 80; (with_reducible refine (V.out).mono ?_); rintro e w1 ⟨rfl, hb1, hs1, hz1, hi1⟩; have q0 := SupAt.cell (f := readF l) hs1 (k := 0) (by omega); have q1 := SupAt.cell (f := readF l) hs1 (k := 1) (by omega); have q2 := SupAt.cell (f := readF l) hs1 (k := 2) (by omega); have q3 := SupAt.cell (f := readF l) hs1 (k := 3) (by omega); have q4 := SupAt.cell (f := readF l) hs1 (k := 4) (by omega); have q5 := SupAt.cell (f := readF l) hs1 (k := 5) (by omega); have q6 := SupAt.cell (f := readF l) hs1 (k := 6) (by omega); have q7 := SupAt.cell (f := readF l) hs1 (k := 7) (by omega); have q8 := SupAt.cell (f := readF l) hs1 (k := 8) (by omega); have q9 := SupAt.cell (f := readF l) hs1 (k := 9) (by omega); have q10 := SupAt.cell (f := readF l) hs1 (k := 10) (by omega); have HZ1 := Lib.hid hz1; clear hz1)
      | (go_at_call 83; (with_reducible refine (P.out _).mono ?_); rintro e w2 ⟨A2, m2, c2, rfl, _, hb2⟩; have hz2 := (hb2.block _ (block_lt HZ1.out)).trans HZ1.out; have z0 := SupAt.cell (f := fun _ => 0) hz2 (k := 0) (by omega); have y0 := Lib.frozen_of_heap hz2 0; have z1 := SupAt.cell (f := fun _ => 0) hz2 (k := 1) (by omega); have y1 := Lib.frozen_of_heap hz2 1; have z2 := SupAt.cell (f := fun _ => 0) hz2 (k := 2) (by omega); have y2 := Lib.frozen_of_heap hz2 2; have z3 := SupAt.cell (f := fun _ => 0) hz2 (k := 3) (by omega); have y3 := Lib.frozen_of_heap hz2 3; have z4 := SupAt.cell (f := fun _ => 0) hz2 (k := 4) (by omega); have y4 := Lib.frozen_of_heap hz2 4; have z5 := SupAt.cell (f := fun _ => 0) hz2 (k := 5) (by omega); have y5 := Lib.frozen_of_heap hz2 5; have z6 := SupAt.cell (f := fun _ => 0) hz2 (k := 6) (by omega); have y6 := Lib.frozen_of_heap hz2 6; have z7 := SupAt.cell (f := fun _ => 0) hz2 (k := 7) (by omega); have y7 := Lib.frozen_of_heap hz2 7; have z8 := SupAt.cell (f := fun _ => 0) hz2 (k := 8) (by omega); have y8 := Lib.frozen_of_heap hz2 8; have z9 := SupAt.cell (f := fun _ => 0) hz2 (k := 9) (by omega); have y9 := Lib.frozen_of_heap hz2 9; have z10 := SupAt.cell (f := fun _ => 0) hz2 (k := 10) (by omega); have y10 := Lib.frozen_of_heap hz2 10))
    refine bodyPost_ret (results_sup Tryz.results35 _ _ (w.heap.size + 1) (fun _ => 0) rfl (SupAt.store hz2 (fun _ => 0))) rfl ?_
    exact ⟨rfl, below_store (hb1.trans (hb2.mono hb1.size)) (by omega) _ _ _ _ _ _ _ _ _ _ _⟩
  | true =>
    have e3 : putSE (readF l) = 0 := by rw [putSE, if_pos hr]
    have e4 : putSB (readF l) = encS (readF l) := by rw [putSB, if_pos hr]
    rw [e3, e4] at P
    clear e3 e4
    by_cases hl : encS (readF l) = l
    · have e1 : readE l = 0 := by rw [readE, if_pos ⟨hr, hl⟩]
      have e2 : readS l = readF l := by rw [readS, if_pos e1]
      rw [e1, e2]
      rw [hl] at P
      clear e1 e2 hr hl
      go_enter Tryz.func35, Tryz.ntmps35
      go_wp2_with (first
        | (go_at_call 80; (with_reducible refine (V.out).mono ?_); rintro e w1 ⟨rfl, hb1, hs1, hz1, hi1⟩; have q0 := SupAt.cell (f := readF l) hs1 (k := 0) (by omega); have q1 := SupAt.cell (f := readF l) hs1 (k := 1) (by omega); have q2 := SupAt.cell (f := readF l) hs1 (k := 2) (by omega); have q3 := SupAt.cell (f := readF l) hs1 (k := 3) (by omega); have q4 := SupAt.cell (f := readF l) hs1 (k := 4) (by omega); have q5 := SupAt.cell (f := readF l) hs1 (k := 5) (by omega); have q6 := SupAt.cell (f := readF l) hs1 (k := 6) (by omega); have q7 := SupAt.cell (f := readF l) hs1 (k := 7) (by omega); have q8 := SupAt.cell (f := readF l) hs1 (k := 8) (by omega); have q9 := SupAt.cell (f := readF l) hs1 (k := 9) (by omega); have q10 := SupAt.cell (f := readF l) hs1 (k := 10) (by omega); have HZ1 := Lib.hid hz1; have HS1 := Lib.hid hs1; have HI1 := Lib.hid hi1; clear hz1 hi1)
        | (go_at_call 83; (with_reducible refine (P.out _).mono ?_); rintro e w2 ⟨A2, m2, c2, rfl, hB2, hb2⟩; have HB2 := Lib.hid hB2; clear hB2; have hz2 := (hb2.block _ (block_lt HZ1.out)).trans HZ1.out; have hp2 := (hb2.block _ (block_lt HS1.out)).trans HS1.out; have hi2 := (hb2.block _ (block_lt HI1.out)).trans HI1.out; have ci2 : w2.cell? ⟨w.heap.size, 0, none⟩ = some (.slice A n c) := (by rw [cell_of_row w2 w.heap.size 0 _ _ _ hi2]; rfl); clear hi2; have s0 := SupAt.cell (f := readF l) hp2 (k := 0) (by omega); have s1 := SupAt.cell (f := readF l) hp2 (k := 1) (by omega); have s2 := SupAt.cell (f := readF l) hp2 (k := 2) (by omega); have s3 := SupAt.cell (f := readF l) hp2 (k := 3) (by omega); have s4 := SupAt.cell (f := readF l) hp2 (k := 4) (by omega); have s5 := SupAt.cell (f := readF l) hp2 (k := 5) (by omega); have s6 := SupAt.cell (f := readF l) hp2 (k := 6) (by omega); have s7 := SupAt.cell (f := readF l) hp2 (k := 7) (by omega); have s8 := SupAt.cell (f := readF l) hp2 (k := 8) (by omega); have s9 := SupAt.cell (f := readF l) hp2 (k := 9) (by omega); have s10 := SupAt.cell (f := readF l) hp2 (k := 10) (by omega); have z0 := SupAt.cell (f := fun _ => 0) hz2 (k := 0) (by omega); have y0 := Lib.frozen_of_heap hz2 0; have z1 := SupAt.cell (f := fun _ => 0) hz2 (k := 1) (by omega); have y1 := Lib.frozen_of_heap hz2 1; have z2 := SupAt.cell (f := fun _ => 0) hz2 (k := 2) (by omega); have y2 := Lib.frozen_of_heap hz2 2; have z3 := SupAt.cell (f := fun _ => 0) hz2 (k := 3) (by omega); have y3 := Lib.frozen_of_heap hz2 3; have z4 := SupAt.cell (f := fun _ => 0) hz2 (k := 4) (by omega); have y4 := Lib.frozen_of_heap hz2 4; have z5 := SupAt.cell (f := fun _ => 0) hz2 (k := 5) (by omega); have y5 := Lib.frozen_of_heap hz2 5; have z6 := SupAt.cell (f := fun _ => 0) hz2 (k := 6) (by omega); have y6 := Lib.frozen_of_heap hz2 6; have z7 := SupAt.cell (f := fun _ => 0) hz2 (k := 7) (by omega); have y7 := Lib.frozen_of_heap hz2 7; have z8 := SupAt.cell (f := fun _ => 0) hz2 (k := 8) (by omega); have y8 := Lib.frozen_of_heap hz2 8; have z9 := SupAt.cell (f := fun _ => 0) hz2 (k := 9) (by omega); have y9 := Lib.frozen_of_heap hz2 9; have z10 := SupAt.cell (f := fun _ => 0) hz2 (k := 10) (by omega); have y10 := Lib.frozen_of_heap hz2 10)
        | (go_at_call 84; refine (Equal_any A2 m2 c2 l A n c l _ HB2.out (HB.out.below (hb1.trans (hb2.mono hb1.size))) true (by simp)).mono ?_; rintro e w' ⟨rfl, rfl⟩))
      refine bodyPost_ret (results_sup Tryz.results35 _ _ (w.heap.size + 1) (readF l) rfl (SupAt.store hz2 (readF l))) rfl ?_
      exact ⟨rfl, below_store (hb1.trans (hb2.mono hb1.size)) (by omega) _ _ _ _ _ _ _ _ _ _ _⟩
    · have e1 : readE l = 7 := by rw [readE, if_neg (fun h => hl h.2)]
      have e2 : readS l = fun _ => 0 := by rw [readS, if_neg (by rw [e1]; omega)]
      rw [e1, e2]
      have HL := Lib.hid hl
      clear e1 e2 hr hl
      go_enter Tryz.func35, Tryz.ntmps35
      go_wp2_with (first
        | (go_at_call 80; (with_reducible refine (V.out).mono ?_); rintro e w1 ⟨rfl, hb1, hs1, hz1, hi1⟩; have q0 := SupAt.cell (f := readF l) hs1 (k := 0) (by omega); have q1 := SupAt.cell (f := readF l) hs1 (k := 1) (by omega); have q2 := SupAt.cell (f := readF l) hs1 (k := 2) (by omega); have q3 := SupAt.cell (f := readF l) hs1 (k := 3) (by omega); have q4 := SupAt.cell (f := readF l) hs1 (k := 4) (by omega); have q5 := SupAt.cell (f := readF l) hs1 (k := 5) (by omega); have q6 := SupAt.cell (f := readF l) hs1 (k := 6) (by omega); have q7 := SupAt.cell (f := readF l) hs1 (k := 7) (by omega); have q8 := SupAt.cell (f := readF l) hs1 (k := 8) (by omega); have q9 := SupAt.cell (f := readF l) hs1 (k := 9) (by omega); have q10 := SupAt.cell (f := readF l) hs1 (k := 10) (by omega); have HZ1 := Lib.hid hz1; have HS1 := Lib.hid hs1; have HI1 := Lib.hid hi1; clear hz1 hi1)
        | (go_at_call 83; (with_reducible refine (P.out _).mono ?_); rintro e w2 ⟨A2, m2, c2, rfl, hB2, hb2⟩; have HB2 := Lib.hid hB2; clear hB2; have hz2 := (hb2.block _ (block_lt HZ1.out)).trans HZ1.out; have hi2 := (hb2.block _ (block_lt HI1.out)).trans HI1.out; have ci2 : w2.cell? ⟨w.heap.size, 0, none⟩ = some (.slice A n c) := (by rw [cell_of_row w2 w.heap.size 0 _ _ _ hi2]; rfl); clear hi2; have z0 := SupAt.cell (f := fun _ => 0) hz2 (k := 0) (by omega); have y0 := Lib.frozen_of_heap hz2 0; have z1 := SupAt.cell (f := fun _ => 0) hz2 (k := 1) (by omega); have y1 := Lib.frozen_of_heap hz2 1; have z2 := SupAt.cell (f := fun _ => 0) hz2 (k := 2) (by omega); have y2 := Lib.frozen_of_heap hz2 2; have z3 := SupAt.cell (f := fun _ => 0) hz2 (k := 3) (by omega); have y3 := Lib.frozen_of_heap hz2 3; have z4 := SupAt.cell (f := fun _ => 0) hz2 (k := 4) (by omega); have y4 := Lib.frozen_of_heap hz2 4; have z5 := SupAt.cell (f := fun _ => 0) hz2 (k := 5) (by omega); have y5 := Lib.frozen_of_heap hz2 5; have z6 := SupAt.cell (f := fun _ => 0) hz2 (k := 6) (by omega); have y6 := Lib.frozen_of_heap hz2 6; have z7 := SupAt.cell (f := fun _ => 0) hz2 (k := 7) (by omega); have y7 := Lib.frozen_of_heap hz2 7; have z8 := SupAt.cell (f := fun _ => 0) hz2 (k := 8) (by omega); have y8 := Lib.frozen_of_heap hz2 8; have z9 := SupAt.cell (f := fun _ => 0) hz2 (k := 9) (by omega); have y9 := Lib.frozen_of_heap hz2 9; have z10 := SupAt.cell (f := fun _ => 0) hz2 (k := 10) (by omega); have y10 := Lib.frozen_of_heap hz2 10)
        | (go_at_call 84; refine (Equal_any A2 m2 c2 (encS (readF l)) A n c l _ HB2.out (HB.out.below (hb1.trans (hb2.mono hb1.size))) false (by simpa using HL.out)).mono ?_; rintro e w' ⟨rfl, rfl⟩))
      refine bodyPost_ret (results_sup Tryz.results35 _ _ (w.heap.size + 1) (fun _ => 0) rfl (SupAt.store hz2 (fun _ => 0))) rfl ?_
      exact ⟨rfl, below_store (hb1.trans (hb2.mono hb1.size)) (by omega) _ _ _ _ _ _ _ _ _ _ _⟩

end Go.Proofs.YtbeobbanppkmhaaGreatDoor

/-
  Layer 6's mathematics: what was put is read.
-/
namespace Go.Proofs.YtbeobbanppkmhaaGreatDoor
open Go.RowKit
set_option linter.unusedVariables false
set_option linter.unusedSimpArgs false

theorem fl_prefix (f : Nat → Int) (k m : Nat) : ∃ t, fl f (k + m) = fl f k ++ t := by
  induction m with
  | zero => exact ⟨[], by simp⟩
  | succ m ih =>
    obtain ⟨t, ht⟩ := ih
    exact ⟨t ++ [(4, f (k + m))], by rw [← Nat.add_assoc, fl, ht, List.append_assoc]⟩

theorem readE_short {l : List UInt8} (h : l.length ≠ 244) : readE l = 7 := by
  rw [readE, if_neg]
  rintro ⟨_, h2⟩
  have := encS_length (readF l)
  rw [h2] at this
  exact h this
theorem readS_wrong {l : List UInt8} (h : readE l = 7) : readS l = fun _ => 0 := by
  rw [readS, if_neg (by rw [h]; omega)]
end Go.Proofs.YtbeobbanppkmhaaGreatDoor

/-
  Layer 6's mathematics: the encoding, part by part.
-/
namespace Go.Proofs.YtbeobbanppkmhaaGreatDoor
open Go.RowKit
set_option linter.unusedVariables false
set_option linter.unusedSimpArgs false

theorem encN_back (l : List UInt8) : encN l.length (leN l) = l := by
  induction l with
  | nil => rfl
  | cons b r ih =>
    have hb := UInt8.toNat_lt b
    have e1 : (b.toNat + 256 * leN r) / 256 = leN r := by omega
    simp only [List.length_cons, leN, encN, e1, ih]
    congr 1
    apply UInt8.toNat_inj.1
    simp

theorem get_four {l : List UInt8} (i : Nat) (hi : i + 4 ≤ l.length) : getE l i 4 = 0 ∧ getN l i 4 = (leN ((l.drop i).take 4) : Int) := by
  have hr : roomE l.length i 4 = 0 := by simp [roomE, isW]; omega
  have hlt := leN_lt (part l i 4)
  have hpl : (part l i 4).length = 4 := by rw [part_len (by omega) (by omega) (by omega)]; rfl
  rw [hpl] at hlt
  have he : getE l i 4 = 0 := by rw [getE, if_pos hr, if_neg (by omega)]
  refine ⟨he, ?_⟩
  rw [getN, if_pos he]
  simp [part]

theorem unp_fours (b : List UInt8) (m i : Nat) (h : i + 4 * m ≤ b.length) : unpE b i (List.replicate m 4) = 0 ∧ unpL b i (List.replicate m 4) = (List.range m).map fun j => getN b ((i + 4 * j : Nat) : Int) 4 := by
  induction m generalizing i with
  | zero => exact ⟨rfl, rfl⟩
  | succ m ih =>
    have hg := get_four (l := b) i (by omega)
    have hih := ih (i + 4) (by omega)
    have e : ((i : Int) + 4) = ((i + 4 : Nat) : Int) := by omega
    simp only [List.replicate_succ, unpE, unpL, hg.1, if_true, e]
    refine ⟨hih.1, ?_⟩
    rw [hih.2, List.range_succ_eq_map, List.map_cons, List.map_map]
    congr 1
    apply List.map_congr_left
    intro j _
    simp only [Function.comp_apply]
    congr 2
    omega

/-- the twelve integers behind the beginning -/
def verF (l : List UInt8) (j : Nat) : Int := getN l ((8 + 4 * j : Nat) : Int) 4
theorem readF_verF (l : List UInt8) (k : Nat) : readF l k = verF l (k + 1) := by
  rw [readF, verF]; congr 2; omega

theorem unp_twelve {l : List UInt8} (h : l.length = 244) : unpE (l.drop 8) 0 (List.replicate 12 4) = 0 ∧ unpN (l.drop 8) (List.replicate 12 4) = (List.range 12).map (verF l) := by
  have hu : unpE (l.drop 8) 0 (List.replicate 12 4) = 0 ∧ unpL (l.drop 8) 0 (List.replicate 12 4) = (List.range 12).map fun j => getN (l.drop 8) ((0 + 4 * j : Nat) : Int) 4 := unp_fours (l.drop 8) 12 0 (by rw [List.length_drop]; omega)
  refine ⟨hu.1, ?_⟩
  rw [unpN, if_pos hu.1]
  refine hu.2.trans ?_
  apply List.map_congr_left
  intro j hj
  have hj := List.mem_range.1 hj
  rw [verF, (get_four (l := l) (8 + 4 * j) (by omega)).2, (get_four (l := l.drop 8) (0 + 4 * j) (by rw [List.length_drop]; omega)).2, List.drop_drop]
  congr 4
  omega

theorem encs_verF {l : List UInt8} (h : l.length = 244) (hv : verF l 0 = 1) : ∀ k, k ≤ 11 → encs (fl (readF l) k) = (l.drop 8).take (4 * (k + 1)) := by
  have four : ∀ j, j < 12 → encN 4 (verF l j).toNat = (l.drop (8 + 4 * j)).take 4 := fun j hj => by
    rw [verF, (get_four (l := l) (8 + 4 * j) (by omega)).2, Int.toNat_natCast]
    have hl : ((l.drop (8 + 4 * j)).take 4).length = 4 := by rw [List.length_take, List.length_drop]; omega
    have := encN_back ((l.drop (8 + 4 * j)).take 4)
    rwa [hl] at this
  intro k
  induction k with
  | zero =>
    intro _
    have := four 0 (by omega)
    rw [hv] at this
    exact this
  | succ k ih =>
    intro hk
    have e : encs (fl (readF l) (k + 1)) = encs (fl (readF l) k) ++ encN 4 (readF l k).toNat := by simp [fl, encs]
    rw [e, ih (by omega), readF_verF, four (k + 1) (by omega), show 4 * (k + 1 + 1) = 4 * (k + 1) + 4 by omega, List.take_add, List.drop_drop]

theorem zeroB_replicate {l : List UInt8} (h : zeroB l = true) : l = List.replicate l.length 0 := by
  rw [List.eq_replicate_iff]
  refine ⟨rfl, fun b hb => ?_⟩
  have := List.all_eq_true.1 h b hb
  simpa using this
theorem zeroB_zeros (n : Nat) : zeroB (List.replicate n 0) = true := by
  rw [zeroB, List.all_eq_true]
  intro b hb
  simpa using (List.mem_replicate.1 hb).2

theorem encS_back {l : List UInt8} (h : l.length = 244) (h1 : l.take 8 = magic) (h2 : verF l 0 = 1) (h3 : zeroB (l.drop 56) = true) : encS (readF l) = l := by
  have e3 := zeroB_replicate h3
  rw [List.length_drop, h] at e3
  rw [encS, encs_verF h h2 11 (by omega), ← h1]
  have e : List.replicate 188 (0 : UInt8) = (l.drop 8).drop (4 * (11 + 1)) := by rw [List.drop_drop]; exact e3.symm
  rw [e, List.take_append_drop, List.take_append_drop]

theorem encS_parts (f : Nat → Int) : (encS f).take 8 = magic ∧ verF (encS f) 0 = 1 ∧ zeroB ((encS f).drop 56) = true := by
  have hm : magic.length = 8 := rfl
  refine ⟨?_, ?_, ?_⟩
  · rw [encS, List.take_append_of_le_length (by omega), List.take_of_length_le (by omega)]
  · obtain ⟨t, ht⟩ := fl_prefix f 0 11
    have e : encS f = magic ++ (encN (4 : Int).toNat (1 : Int).toNat ++ (encs t ++ List.replicate 188 0)) := by
      rw [encS, show (11 : Nat) = 0 + 11 from rfl, ht, fl, encs_append]
      simp [encs, List.append_assoc]
    have g := (get_enc (pre := magic) (rest := encs t ++ List.replicate 188 0) (wd := 4) (x := 1) (by decide) (by decide) (by omega)).2
    rw [← e, hm] at g
    exact g
  · have hl : (magic ++ encs (fl f 11)).length = 56 := by rw [List.length_append, encs_fl, hm]
    have e : encS f = (magic ++ encs (fl f 11)) ++ List.replicate 188 0 := by rw [encS, List.append_assoc]
    rw [e, ← hl, List.drop_left]
    exact zeroB_zeros 188

theorem readE_bad {l : List UInt8} (h : l.take 8 ≠ magic ∨ verF l 0 ≠ 1 ∨ zeroB (l.drop 56) = false ∨ allB (readF l) 11 = false) : readE l = 7 := by
  rw [readE, if_neg]
  rintro ⟨ha, he⟩
  obtain ⟨p1, p2, p3⟩ := encS_parts (readF l)
  rw [he] at p1 p2 p3
  rcases h with h | h | h | h
  · exact h p1
  · exact h p2
  · rw [p3] at h; cases h
  · rw [ha] at h; cases h

theorem readE_good {l : List UInt8} (h : l.length = 244) (h1 : l.take 8 = magic) (h2 : verF l 0 = 1) (h3 : zeroB (l.drop 56) = true) (h4 : allB (readF l) 11 = true) : readE l = 0 := by
  rw [readE, if_pos ⟨h4, encS_back h h1 h2 h3⟩]

end Go.Proofs.YtbeobbanppkmhaaGreatDoor
