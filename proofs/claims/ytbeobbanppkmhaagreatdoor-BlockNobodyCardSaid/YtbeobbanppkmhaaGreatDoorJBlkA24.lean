/-
  Joined: SupD, SupG, SupH, BlkMath.
-/
import Derived.Test.YtbeobbanppkmhaaGreatDoorJBlkA14
import Derived.Test.YtbeobbanppkmhaaGreatDoorJBlkA20
import Derived.LoopTactic
import Derived.Test.YtbeobbanppkmhaaGreatDoorJBlkA10
import Derived.Laws.ResultCell
import Derived.Test.YtbeobbanppkmhaaGreatDoorJBlkA11
/-
  Layer 6's Put.
-/
namespace Go.Proofs.YtbeobbanppkmhaaGreatDoor
open Go.RowKit
set_option linter.unusedVariables false
set_option linter.unusedSimpArgs false

/-- what an encoding begins with -/
def magic : List UInt8 := [83, 67, 65, 78, 84, 76, 73, 78]
/-- an encoding -/
def encS (f : Nat → Int) : List UInt8 := magic ++ (encs (fl f 11) ++ List.replicate 188 0)
def putSE (f : Nat → Int) : Int := if allB f 11 = true then 0 else 1
def putSB (f : Nat → Int) : List UInt8 := if allB f 11 = true then encS f else []

theorem encs_fl (f : Nat → Int) (k : Nat) : (encs (fl f k)).length = 4 * (k + 1) := by
  induction k with
  | zero => rfl
  | succ k ih =>
    have e : encs (fl f (k + 1)) = encs (fl f k) ++ encN 4 (f k).toNat := by simp [fl, encs]
    rw [e, List.length_append, ih, encN_length]
    omega

theorem encS_length (f : Nat → Int) : (encS f).length = 244 := by
  simp only [encS, List.length_append, encs_fl, List.length_replicate]
  rfl

theorem allB_at {f : Nat → Int} {n : Nat} (h : allB f n = true) {k : Nat} (hk : k < n) : okB f k = true := by
  induction n with
  | zero => omega
  | succ n ih =>
    simp only [allB, Bool.and_eq_true] at h
    by_cases e : k = n
    · subst e; exact h.2
    · exact ih h.1 (by omega)

/-- the bounds of a superblock that may be -/
theorem allB_bounds {f : Nat → Int} (h : allB f 11 = true) {k : Nat} (hk : k < 11) : 0 ≤ f k ∧ f k ≤ 2147483647 := by
  have hx := allB_at h hk
  have h4 := allB_at h (show 4 < 11 by omega)
  simp only [okB, Bool.and_eq_true, decide_eq_true_eq] at hx h4
  have e4 : loV 4 = 2 := rfl
  have e5 : hiV (wrap64 (f 4 - 1)) 4 = 14400 := rfl
  rw [e4, e5] at h4
  have hw : wrap64 (f 4 - 1) = f 4 - 1 := by unfold wrap64; omega
  rw [hw] at hx
  rcases (show k = 0 ∨ k = 1 ∨ k = 2 ∨ k = 3 ∨ k = 4 ∨ k = 5 ∨ k = 6 ∨ k = 7 ∨ k = 8 ∨ k = 9 ∨ k = 10 by omega) with rfl | rfl | rfl | rfl | rfl | rfl | rfl | rfl | rfl | rfl | rfl
  all_goals simp only [loV, hiV] at hx
  all_goals omega

theorem packE_fl {f : Nat → Int} (h : ∀ k, k < 11 → 0 ≤ f k ∧ f k ≤ 2147483647) {k : Nat} (hk : k ≤ 11) : packE (fl f k) = 0 := by
  induction k with
  | zero => rfl
  | succ k ih =>
    have hb := h k (by omega)
    have f1 : fitsB (f k) 4 = true := by simp [fitsB]; omega
    rw [fl, packE_append, if_pos (ih (by omega))]
    simp [packE, isW, f1]

theorem fl_bds {f : Nat → Int} (h : ∀ k, k < 11 → 0 ≤ f k ∧ f k ≤ 2147483647) {k : Nat} (hk : k ≤ 11) : ∀ p ∈ fl f k, i64b p.1 ∧ i64b p.2 := by
  induction k with
  | zero => intro p hp; simp [fl] at hp; subst hp; exact ⟨by simp [i64b], by simp [i64b]⟩
  | succ k ih =>
    intro p hp
    rw [fl, List.mem_append] at hp
    rcases hp with hp | hp
    · exact ih (by omega) p hp
    · have hb := h k (by omega)
      simp only [List.mem_cons, List.not_mem_nil, or_false] at hp
      subst hp
      exact ⟨by simp [i64b], by simp only [i64b]; omega⟩

set_option maxRecDepth 100000 in
set_option maxHeartbeats 400000 in
theorem SPut_bad (w : World) (f : Nat → Int) (h : allB f 11 = false) : Calls Tryz.prog 83 #[supV f] w fun e w' => e = .returned (.tuple #[.slice none 0 0, .int .i64 1]) ∧ Below w.heap.size w w' := by
  have R : Hid (∀ W, Below w.heap.size w W → Calls Tryz.prog 130 #[supV f] W fun e w' => e = .returned (.bool false) ∧ Below w.heap.size w w') := fun W hW => (SRight_any W f).mono fun e w' ⟨h1, h2⟩ => by
    rw [h] at h1
    exact ⟨h1, hW.trans (h2.mono hW.size)⟩
  have hb : Below w.heap.size w (w.alloc (.cells (supC f) 29)) := (Below.refl _ _).alloc (Nat.le_refl _) _
  clear h
  simp only [supV, supC] at R hb ⊢
  go_enter Tryz.func83, Tryz.ntmps83
  go_wp2_with (go_at_call 130; (with_reducible refine (R.out _ hb).mono ?_); rintro e w1 ⟨rfl, hb1⟩)
  go_ret2
  exact ⟨rfl, hb1⟩

theorem put_splice {b : List UInt8} (hb : b.length = 48) : splice (splice (List.replicate 244 0) 0 magic) 8 b = magic ++ (b ++ List.replicate 188 0) := by
  have e1 : splice (List.replicate 244 (0 : UInt8)) 0 magic = magic ++ List.replicate 236 0 := by
    rw [splice, List.take_zero, List.nil_append, List.drop_replicate]
    rfl
  rw [e1, splice, hb]
  have e2 : (magic ++ List.replicate 236 (0 : UInt8)).take 8 = magic := by rw [List.take_append_of_le_length (by decide)]; rfl
  have e3 : (magic ++ List.replicate 236 (0 : UInt8)).drop (8 + 48) = List.replicate 188 0 := by
    rw [List.drop_append, List.drop_of_length_le (by decide), List.nil_append, List.drop_replicate]
    rfl
  rw [e2, e3]

theorem u8s_splice' (a b : List UInt8) (i : Nat) : splice (u8s a) i (u8s b) = u8s (splice a i b) := by simp [splice, u8s]

theorem Flds.of_own2 {w : World} {base : Nat} {e : TypeId} {n : Nat} {v : Value} {l : List (Int × Int)} (h : w.ownsRow base e 2 v n (flds l)) (hb : ∀ p ∈ l, i64b p.1 ∧ i64b p.2) (hl : l.length = n) : ∃ A c, v = .slice A n c ∧ Flds w A n c l := by
  obtain ⟨A, c, rfl, h1, h2⟩ := ownsRow_form h
  exact ⟨A, c, rfl, ⟨hl, h1, by simpa [maxLen] using h2, Row.of_own h, hb⟩⟩

theorem put_start {w1 : World} {w : World} {f : Nat → Int} (hb : Below w.heap.size w w1) (hp : SupAt w1 w.heap.size f) :
    PutI w (((w1.alloc (.cells #[.int .i64 4, .int .i64 1] 118)).alloc (.cells #[.slice (some ⟨w1.heap.size, 0, none⟩) 1 1] 115))) w.heap.size (w1.heap.size + 1) (w.heap.size + 1) f 0 := by
  obtain ⟨t1, t2, tb⟩ := two_new w1 (.cells #[.int .i64 4, .int .i64 1] 118) (.cells #[.slice (some ⟨w1.heap.size, 0, none⟩) 1 1] 115)
  have hlt : w.heap.size < w1.heap.size := block_lt hp
  have ho := World.ownsRow_lit (base := w.heap.size + 1) (e := 118) (size := 2) w1 #[.int .i64 4, .int .i64 1] 1 (by omega) (by simp [maxLen]) rfl
  exact ⟨hb.trans (tb.mono hb.size), (tb.block _ hlt).trans hp, by have := tb.size; omega, _, 1, t2, own_keptS ho (fun k _ hk => ((Below.refl _ _).alloc (Nat.le_refl _) _ : Below _ _ _).block k hk)⟩

set_option maxRecDepth 100000 in
set_option maxHeartbeats 1600000 in
theorem SPut_good (w : World) (f : Nat → Int) (h : allB f 11 = true) : Calls Tryz.prog 83 #[supV f] w fun e w' => ∃ g, e = .returned (.tuple #[.slice (some ⟨g, 0, none⟩) 244 244, .int .i64 0]) ∧ Own8 w' w.heap.size g (encS f) ∧ Below w.heap.size w w' := by
  have hbd := fun k hk => allB_bounds h (k := k) hk
  have hmf : ∀ (fn : Fn) (first cap : Array Value) (w : World), (Instr.makeFunc fn first cap).run Tryz.prog w = .ok (.func fn first cap) w := fun _ _ _ _ => rfl
  have hsup := heap_alloc_new w (.cells (supC f) 29)
  have hb0 : Below w.heap.size w (w.alloc (.cells (supC f) 29)) := (Below.refl _ _).alloc (Nat.le_refl _) _
  have R : Hid (Calls Tryz.prog 130 #[supV f] (w.alloc (.cells (supC f) 29)) fun e w' => e = .returned (.bool true) ∧ Below w.heap.size w w' ∧ SupAt w' w.heap.size f) := (SRight_any _ f).mono fun e w' ⟨h1, h2⟩ => by
    rw [h] at h1
    exact ⟨h1, hb0.trans (h2.mono hb0.size), (h2.block _ (block_lt hsup)).trans hsup⟩
  have V : Hid (∀ w1, Below w.heap.size w w1 → SupAt w1 w.heap.size f → Calls Tryz.prog 80 #[.pointer (some ⟨w.heap.size, 0, none⟩), .func (.func 131) #[] #[.pointer (some ⟨w1.heap.size + 1, 0, none⟩)]]
      ((w1.alloc (.cells #[.int .i64 4, .int .i64 1] 118)).alloc (.cells #[.slice (some ⟨w1.heap.size, 0, none⟩) 1 1] 115)) fun e w' => e = .returned (.tuple #[]) ∧
      ∃ A c, w'.cell? ⟨w1.heap.size + 1, 0, none⟩ = some (.slice A 12 c) ∧ Flds w' A 12 c (fl f 11) ∧ Below w.heap.size w w') := fun w1 hb hs =>
    (put_visit (Nat.le_succ _) (by have := block_lt hs; omega) (Nat.lt_succ_self _) (put_start hb hs)).mono fun e w' ⟨h1, hI⟩ => by
      obtain ⟨A, c, hq, ho⟩ := hI.own
      obtain ⟨A', c', hv, hF⟩ := Flds.of_own2 ho (fl_bds hbd (by omega)) (fl_length f 11)
      injection hv with e1 e2 e3
      subst e1; subst e3
      exact ⟨h1, A, c, by rw [cell_of_row w' _ 0 _ _ _ hq]; rfl, hF, hI.bel⟩
  have PK : Hid (∀ A c W, Flds W A 12 c (fl f 11) → Calls Tryz.prog 60 #[.slice A 12 c] W fun e w' => ∃ A' c', e = .returned (.tuple #[.slice A' 48 c', .int .i64 0]) ∧ Bytes8 w' A' 48 c' (encs (fl f 11)) ∧ Below W.heap.size W w') := fun A c W hF =>
    (Pack_any A 12 c (fl f 11) W hF (by omega)).mono fun e w' ⟨A', m, c', h1, h2, h3⟩ => by
      have e0 : packE (fl f 11) = 0 := packE_fl hbd (by omega)
      rw [packB, if_pos e0] at h2
      rw [e0] at h1
      obtain rfl : 48 = m := by have := h2.len; rw [encs_fl] at this; exact this
      exact ⟨A', c', h1, h2, h3⟩
  have HLen := Lib.hid (encs_fl f 11)
  have HE : Hid (encS f = magic ++ (encs (fl f 11) ++ List.replicate 188 0)) := rfl
  generalize encs (fl f 11) = eb at *
  generalize fl f 11 = ff at *
  generalize encS f = es at *
  clear h hsup hb0 hbd
  obtain ⟨i0, hi0, hz0, hz1, hz2⟩ := info_parts info_u8
  simp only [supV, supC] at R ⊢
  go_enter Tryz.func83, Tryz.ntmps83
  go_wp2_with (first
    | (go_at_call 130; (with_reducible refine (R.out).mono ?_); rintro e w1 ⟨rfl, hb1, hs1⟩; have HS1 := Lib.hid hs1; clear hs1)
    | (go_at_call 80; (with_reducible refine (V.out w1 hb1 HS1.out).mono ?_); rintro e w2 ⟨rfl, A2, c2, hc2, hF2, hb2⟩; have HF2 := Lib.hid hF2; clear hF2)
    | (go_at_call 60; (with_reducible refine (PK.out _ _ _ HF2.out).mono ?_); rintro e w3 ⟨A3, c3, rfl, hB3, hb3⟩; have HB3 := Lib.hid hB3; clear hB3)
    | (at_make; refine wpList_make_full w3 rfl (.const (.int .i64 244)) (.const (.int .i64 244)) _ rfl w3.heap.size 5 i0 _ 1 Tryz.underlying22 hi0 hz0 hz1 .i64 .i64 _ _ 244 rfl rfl rfl rfl (by rw [hz2]; omega) (by simp only [maxLen]; omega) (Nat.le_refl _) ?_; intro w4 hown4 hg4; have hb4 := below_of_grown hg4 (by simp); have HO4 := Lib.hid (own_zeros hown4 (Nat.le_refl _)); clear hown4)
    | (refine wpList_copy_str rfl (.tmp 24) (.const (.string ⟨#[83, 67, 65, 78, 84, 76, 73, 78]⟩)) _ _ rfl 5 Tryz.underlying22 size_u8 w3.heap.size 0 244 244 ⟨#[83, 67, 65, 78, 84, 76, 73, 78]⟩ 8 rfl rfl rfl (by omega) (u8s (List.replicate 244 0)) 5 HO4.out.blk (by rw [u8s_length, List.length_replicate]; omega) w3.heap.size w3 hb4 (Nat.le_refl _) ?_; intro w5 HG5 hb5)
    | (refine wpList_copy_splice rfl (.tmp 27) (.tmp 28) _ _ rfl 5 Tryz.underlying22 size_u8 _ _ _ _ _ _ rfl rfl w3.heap.size 8 _ 5 HG5.out (u8s eb) (by rw [u8s_length, HLen.out]; rfl) (fun hp => ⟨rfl, (HB3.out.row.below hb5).src hp⟩) (by rw [u8s_splice', u8s_length, u8s_length, length_splice _ _ _ (by rw [List.length_replicate]; simp), List.length_replicate, HLen.out]; omega) (u8s_one _) w3.heap.size w3 hb5 (Nat.le_refl _) ?_; intro w6 HG6 hb6))
  go_ret2
  have h1 := hb2.trans (hb3.mono hb2.size)
  refine ⟨_, rfl, ⟨h1.size, ?_⟩, h1.trans (hb6.mono h1.size)⟩
  have := HG6.out
  rw [u8s_splice', u8s_splice'] at this
  rw [HE.out, ← put_splice HLen.out]
  exact this

theorem SPut_any (w : World) (f : Nat → Int) : Calls Tryz.prog 83 #[supV f] w fun e w' => ∃ A m c, e = .returned (.tuple #[.slice A m c, .int .i64 (putSE f)]) ∧ Bytes8 w' A m c (putSB f) ∧ Below w.heap.size w w' := by
  cases h : allB f 11 with
  | false =>
    refine (SPut_bad w f h).mono ?_
    rintro e w' ⟨rfl, hb⟩
    exact ⟨none, 0, 0, by rw [putSE, if_neg (by simp [h])], by rw [putSB, if_neg (by simp [h])]; exact Bytes8.nil _, hb⟩
  | true =>
    refine (SPut_good w f h).mono ?_
    rintro e w' ⟨g, rfl, hO, hb⟩
    exact ⟨_, 244, 244, by rw [putSE, if_pos h], by rw [putSB, if_pos h]; exact hO.bytes (encS_length f) (by omega), hb⟩

end Go.Proofs.YtbeobbanppkmhaaGreatDoor

/-
  Layer 6's Read: the action that decodes the fields.
-/
namespace Go.Proofs.YtbeobbanppkmhaaGreatDoor
open Go.RowKit
set_option linter.unusedVariables false
set_option linter.unusedSimpArgs false

set_option maxRecDepth 100000 in
set_option maxHeartbeats 1600000 in
theorem visit_any2 (w : World) (p F : Nat) (cap cap2 : Value) (X : Int) (hF : ∀ (args : Array Value) (W : World), (callFunc F args).run Tryz.prog W = .ok (.enter F args) W) (I : Nat → World → Prop)
    (hX : ∀ k W, 5 ≤ k → I k W → W.cell? ⟨p, 4, none⟩ = some (.int .i64 X))
    (hB : ∀ k W W', I k W → Below W.heap.size W W' → I k W')
    (hS : ∀ k W, k < 11 → I k W → Calls Tryz.prog F #[.pointer (some ⟨p, k, none⟩), .int .i64 (loV k), .int .i64 (hiV (wrap64 (X - 1)) k), cap, cap2] W fun e W' => e = .returned (.tuple #[]) ∧ I (k + 1) W' ∧ Ptrs W W')
    (h0 : I 0 w) :
    Calls Tryz.prog 80 #[.pointer (some ⟨p, 0, none⟩), .func (.func F) #[] #[cap, cap2]] w fun e w' => e = .returned (.tuple #[]) ∧ I 11 w' := by
  have HX := Lib.hid hX
  have HB := Lib.hid hB
  have HS := Lib.hid hS
  have S0 := Lib.hid (show ∀ W, I 0 W → Calls Tryz.prog F #[.pointer (some ⟨p, 0, none⟩), .int .i64 0, .int .i64 2147483647, cap, cap2] W fun e W' => e = .returned (.tuple #[]) ∧ I 1 W' ∧ Ptrs W W' from fun W h => hS 0 W (by omega) h)
  have S1 := Lib.hid (show ∀ W, I 1 W → Calls Tryz.prog F #[.pointer (some ⟨p, 1, none⟩), .int .i64 0, .int .i64 16777215, cap, cap2] W fun e W' => e = .returned (.tuple #[]) ∧ I 2 W' ∧ Ptrs W W' from fun W h => hS 1 W (by omega) h)
  have S2 := Lib.hid (show ∀ W, I 2 W → Calls Tryz.prog F #[.pointer (some ⟨p, 2, none⟩), .int .i64 1, .int .i64 65536, cap, cap2] W fun e W' => e = .returned (.tuple #[]) ∧ I 3 W' ∧ Ptrs W W' from fun W h => hS 2 W (by omega) h)
  have S3 := Lib.hid (show ∀ W, I 3 W → Calls Tryz.prog F #[.pointer (some ⟨p, 3, none⟩), .int .i64 0, .int .i64 65536, cap, cap2] W fun e W' => e = .returned (.tuple #[]) ∧ I 4 W' ∧ Ptrs W W' from fun W h => hS 3 W (by omega) h)
  have S4 := Lib.hid (show ∀ W, I 4 W → Calls Tryz.prog F #[.pointer (some ⟨p, 4, none⟩), .int .i64 2, .int .i64 14400, cap, cap2] W fun e W' => e = .returned (.tuple #[]) ∧ I 5 W' ∧ Ptrs W W' from fun W h => hS 4 W (by omega) h)
  have S5 := Lib.hid (show ∀ j W, j < 6 → I (5 + j) W → Calls Tryz.prog F #[.pointer (some ⟨p, 5 + j, none⟩), .int .i64 1, .int .i64 (wrap64 (X - 1)), cap, cap2] W fun e W' => e = .returned (.tuple #[]) ∧ I (5 + j + 1) W' ∧ Ptrs W W' from fun j W hj h => by
    have := hS (5 + j) W (by omega) h
    rcases (show j = 0 ∨ j = 1 ∨ j = 2 ∨ j = 3 ∨ j = 4 ∨ j = 5 by omega) with rfl | rfl | rfl | rfl | rfl | rfl
    all_goals exact this)
  clear hX hB hS HS
  go_enter Tryz.func80, Tryz.ntmps80
  go_wp2_with (first
    | ((with_reducible refine (S4.out _ h4).mono ?_); rintro e w5 ⟨rfl, h5, _⟩)
    | ((with_reducible refine (S3.out _ h3).mono ?_); rintro e w4 ⟨rfl, h4, _⟩)
    | ((with_reducible refine (S2.out _ h2).mono ?_); rintro e w3 ⟨rfl, h3, _⟩)
    | ((with_reducible refine (S1.out _ h1).mono ?_); rintro e w2 ⟨rfl, h2, _⟩)
    | ((with_reducible refine (S0.out _ h0).mono ?_); rintro e w1 ⟨rfl, h1, _⟩))
  go_region
  go_wp2
  have hb6 : Below w5.heap.size w5 (w5.alloc (.cells (rootP p).toArray 152)).drew := ((Below.refl _ _).alloc (Nat.le_refl _) _).drew
  have H6 := Lib.hid (HB.out 5 _ _ h5 hb6)
  have HR6 : Hid ((w5.alloc (.cells (rootP p).toArray 152)).drew.heap[w5.heap.size]? = some (.cells (rootP p).toArray 152 (0, 0))) := heap_alloc_new w5 (.cells (rootP p).toArray 152)
  generalize w5.heap.size = g at *
  clear h0 h1 h2 h3 h4 h5 hb6 S0 S1 S2 S3 S4
  go_loopw [53] (fun i wr => ∃ j : Nat, j ≤ 6 ∧ i = .int .i64 j ∧ Hid (I (5 + j) wr) ∧ Hid (wr.heap[g]? = some (.cells (rootP p).toArray 152 (0, 0)))) (fun i _ => 6 - (intOf i).toNat)
  case atStart => exact ⟨0, by omega, rfl, H6, HR6⟩
  case round =>
    clear H6 HR6
    obtain ⟨j, hj, rfl, HI, HR⟩ := hrel
    by_cases hlt : j < 6
    · have hX4 := HX.out _ _ (by omega) HI.out
      have hcj : wr.cell? ⟨g, j, none⟩ = some (.pointer (some ⟨p, 5 + j, none⟩)) := by
        rw [cell_of_row wr g j _ _ _ HR.out]
        rcases (show j = 0 ∨ j = 1 ∨ j = 2 ∨ j = 3 ∨ j = 4 ∨ j = 5 by omega) with rfl | rfl | rfl | rfl | rfl | rfl <;> rfl
      go_wp2_with ((with_reducible refine (S5.out j _ hlt HI.out).mono ?_); rintro e w7 ⟨rfl, h7, hp7⟩; have HI7 := Lib.hid h7; have HR7 := Lib.hid (hp7 _ _ _ HR.out); clear h7 hp7)
      go_roundw
      case rel => exact ⟨j + 1, by omega, by go_num, HI7, HR7⟩
      case measure => simp [intOf]; omega
    · obtain rfl : j = 6 := by omega
      go_wp2
      go_end0
      exact ⟨rfl, HI.out⟩


/-- the fields that lie in the bytes -/
def readF (l : List UInt8) : Nat → Int := fun k => getN l ((12 + 4 * k : Nat) : Int) 4
/-- the first k of them, and zeros -/
def readK (l : List UInt8) (k : Nat) : Nat → Int := fun j => if j < k then readF l j else 0

theorem supC_congr {f g : Nat → Int} (h : ∀ k, k < 11 → f k = g k) : supC f = supC g := by
  simp only [supC, h 0 (by omega), h 1 (by omega), h 2 (by omega), h 3 (by omega), h 4 (by omega), h 5 (by omega), h 6 (by omega), h 7 (by omega), h 8 (by omega), h 9 (by omega), h 10 (by omega)]

theorem supC_set (f : Nat → Int) (x : Int) {k : Nat} (hk : k < 11) : (supC f).setIfInBounds k (.int .i64 x) = supC (fun j => if j = k then x else f j) := by
  rcases (show k = 0 ∨ k = 1 ∨ k = 2 ∨ k = 3 ∨ k = 4 ∨ k = 5 ∨ k = 6 ∨ k = 7 ∨ k = 8 ∨ k = 9 ∨ k = 10 by omega) with rfl | rfl | rfl | rfl | rfl | rfl | rfl | rfl | rfl | rfl | rfl <;> rfl

theorem SupAt.set {w : World} {p : Nat} {f : Nat → Int} (h : SupAt w p f) {k : Nat} (hk : k < 11) (x : Int) : SupAt (w.setCell ⟨p, k, none⟩ (.int .i64 x)) p (fun j => if j = k then x else f j) := by
  rw [SupAt, heap_setCell_same w p k _ _ _ h, supC_set f x hk]

set_option maxRecDepth 100000 in
set_option maxHeartbeats 400000 in
theorem gact_any (w : World) (p k gi ga : Nat) (f : Nat → Int) (at_ : Nat) (lo hi : Int) (A : Option Addr) (n c : Nat) (l : List UInt8) (hk : k < 11) (hp : SupAt w p f) (hi_ : w.heap[gi]? = some (.cells #[.slice A n c] 22 (0, 0)))
    (ha : w.heap[ga]? = some (.cells #[.int .i64 (at_ : Int)] 3 (0, 0))) (hB : Bytes8 w A n c l) (hat : at_ ≤ 1000) (hpa : p ≠ ga) :
    Calls Tryz.prog 81 #[.pointer (some ⟨p, k, none⟩), .int .i64 lo, .int .i64 hi, .pointer (some ⟨gi, 0, none⟩), .pointer (some ⟨ga, 0, none⟩)] w fun e w' => e = .returned (.tuple #[]) ∧
      ∃ w1, Below w.heap.size w w1 ∧ w' = (w1.setCell ⟨p, k, none⟩ (.int .i64 (getN l at_ 4))).setCell ⟨ga, 0, none⟩ (.int .i64 ((at_ + 4 : Nat) : Int)) := by
  have G := Lib.hid (Get_any A n c l at_ 4 w hB (by omega))
  have ci : w.cell? ⟨gi, 0, none⟩ = some (.slice A n c) := by rw [cell_of_row w gi 0 _ _ _ hi_]; rfl
  have ca : w.cell? ⟨ga, 0, none⟩ = some (.int .i64 (at_ : Int)) := by rw [cell_of_row w ga 0 _ _ _ ha]; rfl
  have HP := Lib.hid hp
  have HA := Lib.hid ha
  generalize getN l at_ 4 = x at *
  generalize getE l at_ 4 = y at *
  clear hp ha hi_ hB
  go_enter Tryz.func81, Tryz.ntmps81
  go_wp2_with (go_at_call 82; (with_reducible refine (G.out).mono ?_); rintro e w1 ⟨rfl, hb1⟩; have hp1 := (hb1.block p (block_lt HP.out)).trans HP.out; have ha1 := (hb1.block ga (block_lt HA.out)).trans HA.out; have cp1 := SupAt.cell (f := f) hp1 hk; have fp1 := Lib.frozen_of_heap hp1 k; have ca1 : (w1.setCell ⟨p, k, none⟩ (.int .i64 x)).cell? ⟨ga, 0, none⟩ = some (.int .i64 (at_ : Int)) := (by rw [cell_of_row _ ga 0 _ _ _ ((heap_setCell_other w1 ⟨p, k, none⟩ ga _ (fun e => hpa e.symm)).trans ha1)]; rfl); have fa1 := Lib.frozen_of_heap ha1 0; have cb1 : w1.cell? ⟨ga, 0, none⟩ = some (.int .i64 (at_ : Int)) := (by rw [cell_of_row _ ga 0 _ _ _ ha1]; rfl))
  go_end0
  refine ⟨rfl, w1, hb1, ?_⟩
  rfl

/-- what Read's action keeps -/
structure ReadI (w0 w : World) (p gi ga r : Nat) (A : Option Addr) (n c : Nat) (l : List UInt8) (k : Nat) : Prop where
  bel : Below w0.heap.size w0 w
  sup : SupAt w p (readK l k)
  inn : w.heap[gi]? = some (Obj.cells #[.slice A n c] 22 (0, 0))
  at_ : w.heap[ga]? = some (Obj.cells #[.int .i64 ((12 + 4 * k : Nat) : Int)] 3 (0, 0))
  res : SupAt w r (fun _ => 0)

theorem callF19 (args : Array Value) (W : World) : (callFunc 81 args).run Tryz.prog W = .ok (.enter 81 args) W := by kernel_rfl

theorem read_visit {w0 w : World} {p gi ga r : Nat} {A : Option Addr} {n c : Nat} {l : List UInt8} (hB : Bytes8 w0 A n c l) (h1 : w0.heap.size ≤ p) (h2 : w0.heap.size ≤ ga) (hpg : p ≠ ga) (hpi : gi ≠ p) (hai : gi ≠ ga) (hrp : r ≠ p) (hra : r ≠ ga) (h : ReadI w0 w p gi ga r A n c l 0) :
    Calls Tryz.prog 80 #[.pointer (some ⟨p, 0, none⟩), .func (.func 81) #[] #[.pointer (some ⟨gi, 0, none⟩), .pointer (some ⟨ga, 0, none⟩)]] w fun e w' => e = .returned (.tuple #[]) ∧ ReadI w0 w' p gi ga r A n c l 11 := by
  refine visit_any2 w p 81 (.pointer (some ⟨gi, 0, none⟩)) (.pointer (some ⟨ga, 0, none⟩)) (readF l 4) callF19 (fun k W => ReadI w0 W p gi ga r A n c l k) ?_ ?_ ?_ h
  · intro k W hk hI
    have := hI.sup.cell (k := 4) (by omega)
    rwa [readK, if_pos (by omega)] at this
  · intro k W W' hI hb
    exact ⟨hI.bel.trans (hb.mono hI.bel.size), (hb.block p (block_lt hI.sup)).trans hI.sup, (hb.block gi (block_lt hI.inn)).trans hI.inn, (hb.block ga (block_lt hI.at_)).trans hI.at_, (hb.block r (block_lt hI.res)).trans hI.res⟩
  · intro k W hk hI
    refine (gact_any W p k gi ga _ (12 + 4 * k) _ _ A n c l hk hI.sup hI.inn hI.at_ (hB.below hI.bel) (by omega) hpg).mono ?_
    rintro e W' ⟨rfl, W1, hb, rfl⟩
    have s1 : SupAt W1 p (readK l k) := (hb.block p (block_lt hI.sup)).trans hI.sup
    have a1 := (hb.block ga (block_lt hI.at_)).trans hI.at_
    have i1 := (hb.block gi (block_lt hI.inn)).trans hI.inn
    have a2 : (W1.setCell ⟨p, k, none⟩ (.int .i64 (getN l (12 + 4 * k : Nat) 4))).heap[ga]? = _ := (heap_setCell_other W1 ⟨p, k, none⟩ ga _ (fun e => hpg e.symm)).trans a1
    refine ⟨rfl, ⟨?_, ?_, ?_, ?_, ?_⟩, ((Ptrs.of_below hb).trans (Ptrs.set s1 (by decide) k _)).trans (Ptrs.set a2 (by decide) 0 _)⟩
    · exact ((hI.bel.trans (hb.mono hI.bel.size)).setCell (p := ⟨p, k, none⟩) h1 _).setCell (p := ⟨ga, 0, none⟩) h2 _
    · rw [SupAt, heap_setCell_other _ ⟨ga, 0, none⟩ p _ hpg, s1.set hk, ]
      congr 2
      apply supC_congr
      intro j hj
      simp only [readK]
      by_cases e : j = k
      · subst e; rw [if_pos rfl, if_pos (by omega)]; rfl
      · rw [if_neg e]
        by_cases e2 : j < k
        · rw [if_pos e2, if_pos (by omega)]
        · rw [if_neg e2, if_neg (by omega)]
    · rw [heap_setCell_other _ ⟨ga, 0, none⟩ gi _ hai, heap_setCell_other _ ⟨p, k, none⟩ gi _ hpi]
      exact i1
    · exact one_setCell a2
    · rw [SupAt, heap_setCell_other _ ⟨ga, 0, none⟩ r _ hra, heap_setCell_other _ ⟨p, k, none⟩ r _ hrp]
      exact (hb.block r (block_lt hI.res)).trans hI.res

end Go.Proofs.YtbeobbanppkmhaaGreatDoor

/-
  Layer 6's Read.
-/
namespace Go.Proofs.YtbeobbanppkmhaaGreatDoor
open Go.RowKit
set_option linter.unusedVariables false
set_option linter.unusedSimpArgs false

set_option maxRecDepth 100000 in
set_option maxHeartbeats 400000 in
theorem Equal_any (A1 : Option Addr) (n1 c1 : Nat) (l1 : List UInt8) (A2 : Option Addr) (n2 c2 : Nat) (l2 : List UInt8) (w : World) (h1 : Bytes8 w A1 n1 c1 l1) (h2 : Bytes8 w A2 n2 c2 l2) (r : Bool) (hr : decide (l1 = l2) = r) :
    Calls Tryz.prog 84 #[.slice A1 n1 c1, .slice A2 n2 c2] w fun e w' => e = .returned (.bool r) ∧ w = w' := by
  have cv1 := run_str h1
  have cv2 := run_str h2
  clear h1 h2
  go_enter Tryz.func84, Tryz.ntmps84
  go_wp2
  go_ret
  exact ⟨ret_bool (by rw [← hr, Bool.eq_iff_iff]; simp), rfl⟩

/-- what Read answers -/
def readE (l : List UInt8) : Int := if allB (readF l) 11 = true ∧ encS (readF l) = l then 0 else 7
def readS (l : List UInt8) : Nat → Int := if readE l = 0 then readF l else fun _ => 0

theorem results_sup {fn : Func} {p u : Tmp} (h : fn.results = #[.cell p 29, .tmp u]) (tmps : Array Value) (w : World) (g : Nat) (f : Nat → Int)
    (hp : tmps.getD p undef = .pointer (some ⟨g, 0, none⟩)) (hg : SupAt w g f) : (results fn tmps).run Tryz.prog w = .ok (.tuple #[supV f, tmps.getD u undef]) w := by
  rw [results_cell_tmp h, hp]
  simp [asAddr, run_loadVar_row w g _ _ _ _ _ hg Tryz.underlying29 rfl (by kernel_rfl), Result.andThen, supV]

theorem SupAt.store {w : World} {g : Nat} {f : Nat → Int} (hs : SupAt w g f) (h : Nat → Int) : SupAt (((((((((((w.setCell ⟨g, 0, none⟩ (.int .i64 (h 0))).setCell ⟨g, 1, none⟩ (.int .i64 (h 1))).setCell ⟨g, 2, none⟩ (.int .i64 (h 2))).setCell ⟨g, 3, none⟩ (.int .i64 (h 3))).setCell ⟨g, 4, none⟩ (.int .i64 (h 4))).setCell ⟨g, 5, none⟩ (.int .i64 (h 5))).setCell ⟨g, 6, none⟩ (.int .i64 (h 6))).setCell ⟨g, 7, none⟩ (.int .i64 (h 7))).setCell ⟨g, 8, none⟩ (.int .i64 (h 8))).setCell ⟨g, 9, none⟩ (.int .i64 (h 9))).setCell ⟨g, 10, none⟩ (.int .i64 (h 10))) g h := by
  have := ((((((((((hs.set (k := 0) (by omega) (h 0)).set (k := 1) (by omega) (h 1)).set (k := 2) (by omega) (h 2)).set (k := 3) (by omega) (h 3)).set (k := 4) (by omega) (h 4)).set (k := 5) (by omega) (h 5)).set (k := 6) (by omega) (h 6)).set (k := 7) (by omega) (h 7)).set (k := 8) (by omega) (h 8)).set (k := 9) (by omega) (h 9)).set (k := 10) (by omega) (h 10)
  exact this

theorem below_store {B g : Nat} {w0 w : World} (hb : Below B w0 w) (hg : B ≤ g) (v0 v1 v2 v3 v4 v5 v6 v7 v8 v9 v10 : Value) : Below B w0 (((((((((((w.setCell ⟨g, 0, none⟩ v0).setCell ⟨g, 1, none⟩ v1).setCell ⟨g, 2, none⟩ v2).setCell ⟨g, 3, none⟩ v3).setCell ⟨g, 4, none⟩ v4).setCell ⟨g, 5, none⟩ v5).setCell ⟨g, 6, none⟩ v6).setCell ⟨g, 7, none⟩ v7).setCell ⟨g, 8, none⟩ v8).setCell ⟨g, 9, none⟩ v9).setCell ⟨g, 10, none⟩ v10) :=
  ((((((((((hb.setCell (p := ⟨g, 0, none⟩) hg _).setCell (p := ⟨g, 1, none⟩) hg _).setCell (p := ⟨g, 2, none⟩) hg _).setCell (p := ⟨g, 3, none⟩) hg _).setCell (p := ⟨g, 4, none⟩) hg _).setCell (p := ⟨g, 5, none⟩) hg _).setCell (p := ⟨g, 6, none⟩) hg _).setCell (p := ⟨g, 7, none⟩) hg _).setCell (p := ⟨g, 8, none⟩) hg _).setCell (p := ⟨g, 9, none⟩) hg _).setCell (p := ⟨g, 10, none⟩) hg _

theorem four_new (w : World) (o1 o2 o3 o4 : Obj) : ((((w.alloc o1).alloc o2).alloc o3).alloc o4).heap[w.heap.size]? = some o1 ∧ ((((w.alloc o1).alloc o2).alloc o3).alloc o4).heap[w.heap.size + 1]? = some o2 ∧ ((((w.alloc o1).alloc o2).alloc o3).alloc o4).heap[w.heap.size + 2]? = some o3 ∧ ((((w.alloc o1).alloc o2).alloc o3).alloc o4).heap[w.heap.size + 3]? = some o4 ∧ Below w.heap.size w ((((w.alloc o1).alloc o2).alloc o3).alloc o4) := by
  obtain ⟨a1, a2, a3⟩ := two_new w o1 o2
  obtain ⟨b1, b2, b3⟩ := two_new ((w.alloc o1).alloc o2) o3 o4
  have hs : ((w.alloc o1).alloc o2).heap.size = w.heap.size + 2 := by simp
  rw [hs] at b1 b2 b3
  exact ⟨(b3.block _ (by omega)).trans a1, (b3.block _ (by omega)).trans a2, b1, b2, a3.trans (b3.mono (by omega))⟩

set_option maxRecDepth 100000 in
set_option maxHeartbeats 1600000 in
theorem SRead_any (A : Option Addr) (n c : Nat) (l : List UInt8) (w : World) (h : Bytes8 w A n c l) :
    Calls Tryz.prog 35 #[.slice A n c] w fun e w' => e = .returned (.tuple #[supV (readS l), .int .i64 (readE l)]) ∧ Below w.heap.size w w' := by
  have hmf : ∀ (fn : Fn) (first cap : Array Value) (w : World), (Instr.makeFunc fn first cap).run Tryz.prog w = .ok (.func fn first cap) w := fun _ _ _ _ => rfl
  obtain ⟨t1, t2, t3, t4, tb⟩ := four_new w (.cells #[.slice A n c] 22) (.cells (supC fun _ => 0) 29) (.cells (supC fun _ => 0) 29) (.cells #[.int .i64 12] 3)
  have hk0 : supC (readK l 0) = supC fun _ => 0 := supC_congr fun k _ => by rw [readK, if_neg (by omega)]
  have V : Hid (Calls Tryz.prog 80 #[.pointer (some ⟨w.heap.size + 2, 0, none⟩), .func (.func 81) #[] #[.pointer (some ⟨w.heap.size, 0, none⟩), .pointer (some ⟨w.heap.size + 3, 0, none⟩)]]
      ((((w.alloc (.cells #[.slice A n c] 22)).alloc (.cells (supC fun _ => 0) 29)).alloc (.cells (supC fun _ => 0) 29)).alloc (.cells #[.int .i64 12] 3)) fun e w' => e = .returned (.tuple #[]) ∧
      Below w.heap.size w w' ∧ SupAt w' (w.heap.size + 1 + 1) (readF l) ∧ SupAt w' (w.heap.size + 1) (fun _ => 0) ∧ w'.heap[w.heap.size]? = some (Obj.cells #[.slice A n c] 22 (0, 0))) :=
    (read_visit (gi := w.heap.size) (p := w.heap.size + 2) (ga := w.heap.size + 3) (r := w.heap.size + 1) h (by omega) (by omega) (by omega) (by omega) (by omega) (by omega) (by omega) ⟨tb, by rw [SupAt, hk0]; exact t3, t1, t4, t2⟩).mono fun e w' ⟨h1, hI⟩ => by
      have hs := hI.sup
      rw [SupAt, supC_congr (g := readF l) fun k hk => by rw [readK, if_pos hk]] at hs
      exact ⟨h1, hI.bel, hs, hI.res, hI.inn⟩
  have HB := Lib.hid h
  clear t1 t2 t3 t4 tb hk0 h
  have P : Hid (∀ W, Calls Tryz.prog 83 #[supV (readF l)] W fun e w' => ∃ A m c, e = .returned (.tuple #[.slice A m c, .int .i64 (putSE (readF l))]) ∧ Bytes8 w' A m c (putSB (readF l)) ∧ Below W.heap.size W w') := fun W => SPut_any W _
  simp only [supC] at V
  simp only [supV, supC] at P
  cases hr : allB (readF l) 11 with
  | false =>
    have e1 : readE l = 7 := by rw [readE, if_neg (by simp [hr])]
    have e2 : readS l = fun _ => 0 := by rw [readS, if_neg (by rw [e1]; omega)]
    have e3 : putSE (readF l) = 1 := by rw [putSE, if_neg (by simp [hr])]
    rw [e1, e2]
    rw [e3] at P
    clear e1 e2 e3 hr
    go_enter Tryz.func35, Tryz.ntmps35
    go_wp2_with (first
      | (go_at_call 80; (with_reducible refine (V.out).mono ?_); rintro e w1 ⟨rfl, hb1, hs1, hz1, hi1⟩; have q0 := SupAt.cell (f := readF l) hs1 (k := 0) (by omega); have q1 := SupAt.cell (f := readF l) hs1 (k := 1) (by omega); have q2 := SupAt.cell (f := readF l) hs1 (k := 2) (by omega); have q3 := SupAt.cell (f := readF l) hs1 (k := 3) (by omega); have q4 := SupAt.cell (f := readF l) hs1 (k := 4) (by omega); have q5 := SupAt.cell (f := readF l) hs1 (k := 5) (by omega); have q6 := SupAt.cell (f := readF l) hs1 (k := 6) (by omega); have q7 := SupAt.cell (f := readF l) hs1 (k := 7) (by omega); have q8 := SupAt.cell (f := readF l) hs1 (k := 8) (by omega); have q9 := SupAt.cell (f := readF l) hs1 (k := 9) (by omega); have q10 := SupAt.cell (f := readF l) hs1 (k := 10) (by omega); have HZ1 := Lib.hid hz1; clear hz1)
      | (go_at_call 83; (with_reducible refine (P.out _).mono ?_); rintro e w2 ⟨A2, m2, c2, rfl, _, hb2⟩; have hz2 := (hb2.block _ (block_lt HZ1.out)).trans HZ1.out; have z0 := SupAt.cell (f := fun _ => 0) hz2 (k := 0) (by omega); have y0 := Lib.frozen_of_heap hz2 0; have z1 := SupAt.cell (f := fun _ => 0) hz2 (k := 1) (by omega); have y1 := Lib.frozen_of_heap hz2 1; have z2 := SupAt.cell (f := fun _ => 0) hz2 (k := 2) (by omega); have y2 := Lib.frozen_of_heap hz2 2; have z3 := SupAt.cell (f := fun _ => 0) hz2 (k := 3) (by omega); have y3 := Lib.frozen_of_heap hz2 3; have z4 := SupAt.cell (f := fun _ => 0) hz2 (k := 4) (by omega); have y4 := Lib.frozen_of_heap hz2 4; have z5 := SupAt.cell (f := fun _ => 0) hz2 (k := 5) (by omega); have y5 := Lib.frozen_of_heap hz2 5; have z6 := SupAt.cell (f := fun _ => 0) hz2 (k := 6) (by omega); have y6 := Lib.frozen_of_heap hz2 6; have z7 := SupAt.cell (f := fun _ => 0) hz2 (k := 7) (by omega); have y7 := Lib.frozen_of_heap hz2 7; have z8 := SupAt.cell (f := fun _ => 0) hz2 (k := 8) (by omega); have y8 := Lib.frozen_of_heap hz2 8; have z9 := SupAt.cell (f := fun _ => 0) hz2 (k := 9) (by omega); have y9 := Lib.frozen_of_heap hz2 9; have z10 := SupAt.cell (f := fun _ => 0) hz2 (k := 10) (by omega); have y10 := Lib.frozen_of_heap hz2 10))
    refine bodyPost_ret (results_sup Tryz.results35 _ _ (w.heap.size + 1) (fun _ => 0) rfl (SupAt.store hz2 (fun _ => 0))) rfl ?_
    exact ⟨rfl, below_store (hb1.trans (hb2.mono hb1.size)) (by omega) _ _ _ _ _ _ _ _ _ _ _⟩
  | true =>
    have e3 : putSE (readF l) = 0 := by rw [putSE, if_pos hr]
    have e4 : putSB (readF l) = encS (readF l) := by rw [putSB, if_pos hr]
    rw [e3, e4] at P
    clear e3 e4
    by_cases hl : encS (readF l) = l
    · have e1 : readE l = 0 := by rw [readE, if_pos ⟨hr, hl⟩]
      have e2 : readS l = readF l := by rw [readS, if_pos e1]
      rw [e1, e2]
      rw [hl] at P
      clear e1 e2 hr hl
      go_enter Tryz.func35, Tryz.ntmps35
      go_wp2_with (first
        | (go_at_call 80; (with_reducible refine (V.out).mono ?_); rintro e w1 ⟨rfl, hb1, hs1, hz1, hi1⟩; have q0 := SupAt.cell (f := readF l) hs1 (k := 0) (by omega); have q1 := SupAt.cell (f := readF l) hs1 (k := 1) (by omega); have q2 := SupAt.cell (f := readF l) hs1 (k := 2) (by omega); have q3 := SupAt.cell (f := readF l) hs1 (k := 3) (by omega); have q4 := SupAt.cell (f := readF l) hs1 (k := 4) (by omega); have q5 := SupAt.cell (f := readF l) hs1 (k := 5) (by omega); have q6 := SupAt.cell (f := readF l) hs1 (k := 6) (by omega); have q7 := SupAt.cell (f := readF l) hs1 (k := 7) (by omega); have q8 := SupAt.cell (f := readF l) hs1 (k := 8) (by omega); have q9 := SupAt.cell (f := readF l) hs1 (k := 9) (by omega); have q10 := SupAt.cell (f := readF l) hs1 (k := 10) (by omega); have HZ1 := Lib.hid hz1; have HS1 := Lib.hid hs1; have HI1 := Lib.hid hi1; clear hz1 hi1)
        | (go_at_call 83; (with_reducible refine (P.out _).mono ?_); rintro e w2 ⟨A2, m2, c2, rfl, hB2, hb2⟩; have HB2 := Lib.hid hB2; clear hB2; have hz2 := (hb2.block _ (block_lt HZ1.out)).trans HZ1.out; have hp2 := (hb2.block _ (block_lt HS1.out)).trans HS1.out; have hi2 := (hb2.block _ (block_lt HI1.out)).trans HI1.out; have ci2 : w2.cell? ⟨w.heap.size, 0, none⟩ = some (.slice A n c) := (by rw [cell_of_row w2 w.heap.size 0 _ _ _ hi2]; rfl); clear hi2; have s0 := SupAt.cell (f := readF l) hp2 (k := 0) (by omega); have s1 := SupAt.cell (f := readF l) hp2 (k := 1) (by omega); have s2 := SupAt.cell (f := readF l) hp2 (k := 2) (by omega); have s3 := SupAt.cell (f := readF l) hp2 (k := 3) (by omega); have s4 := SupAt.cell (f := readF l) hp2 (k := 4) (by omega); have s5 := SupAt.cell (f := readF l) hp2 (k := 5) (by omega); have s6 := SupAt.cell (f := readF l) hp2 (k := 6) (by omega); have s7 := SupAt.cell (f := readF l) hp2 (k := 7) (by omega); have s8 := SupAt.cell (f := readF l) hp2 (k := 8) (by omega); have s9 := SupAt.cell (f := readF l) hp2 (k := 9) (by omega); have s10 := SupAt.cell (f := readF l) hp2 (k := 10) (by omega); have z0 := SupAt.cell (f := fun _ => 0) hz2 (k := 0) (by omega); have y0 := Lib.frozen_of_heap hz2 0; have z1 := SupAt.cell (f := fun _ => 0) hz2 (k := 1) (by omega); have y1 := Lib.frozen_of_heap hz2 1; have z2 := SupAt.cell (f := fun _ => 0) hz2 (k := 2) (by omega); have y2 := Lib.frozen_of_heap hz2 2; have z3 := SupAt.cell (f := fun _ => 0) hz2 (k := 3) (by omega); have y3 := Lib.frozen_of_heap hz2 3; have z4 := SupAt.cell (f := fun _ => 0) hz2 (k := 4) (by omega); have y4 := Lib.frozen_of_heap hz2 4; have z5 := SupAt.cell (f := fun _ => 0) hz2 (k := 5) (by omega); have y5 := Lib.frozen_of_heap hz2 5; have z6 := SupAt.cell (f := fun _ => 0) hz2 (k := 6) (by omega); have y6 := Lib.frozen_of_heap hz2 6; have z7 := SupAt.cell (f := fun _ => 0) hz2 (k := 7) (by omega); have y7 := Lib.frozen_of_heap hz2 7; have z8 := SupAt.cell (f := fun _ => 0) hz2 (k := 8) (by omega); have y8 := Lib.frozen_of_heap hz2 8; have z9 := SupAt.cell (f := fun _ => 0) hz2 (k := 9) (by omega); have y9 := Lib.frozen_of_heap hz2 9; have z10 := SupAt.cell (f := fun _ => 0) hz2 (k := 10) (by omega); have y10 := Lib.frozen_of_heap hz2 10)
        | (go_at_call 84; refine (Equal_any A2 m2 c2 l A n c l _ HB2.out (HB.out.below (hb1.trans (hb2.mono hb1.size))) true (by simp)).mono ?_; rintro e w' ⟨rfl, rfl⟩))
      refine bodyPost_ret (results_sup Tryz.results35 _ _ (w.heap.size + 1) (readF l) rfl (SupAt.store hz2 (readF l))) rfl ?_
      exact ⟨rfl, below_store (hb1.trans (hb2.mono hb1.size)) (by omega) _ _ _ _ _ _ _ _ _ _ _⟩
    · have e1 : readE l = 7 := by rw [readE, if_neg (fun h => hl h.2)]
      have e2 : readS l = fun _ => 0 := by rw [readS, if_neg (by rw [e1]; omega)]
      rw [e1, e2]
      have HL := Lib.hid hl
      clear e1 e2 hr hl
      go_enter Tryz.func35, Tryz.ntmps35
      go_wp2_with (first
        | (go_at_call 80; (with_reducible refine (V.out).mono ?_); rintro e w1 ⟨rfl, hb1, hs1, hz1, hi1⟩; have q0 := SupAt.cell (f := readF l) hs1 (k := 0) (by omega); have q1 := SupAt.cell (f := readF l) hs1 (k := 1) (by omega); have q2 := SupAt.cell (f := readF l) hs1 (k := 2) (by omega); have q3 := SupAt.cell (f := readF l) hs1 (k := 3) (by omega); have q4 := SupAt.cell (f := readF l) hs1 (k := 4) (by omega); have q5 := SupAt.cell (f := readF l) hs1 (k := 5) (by omega); have q6 := SupAt.cell (f := readF l) hs1 (k := 6) (by omega); have q7 := SupAt.cell (f := readF l) hs1 (k := 7) (by omega); have q8 := SupAt.cell (f := readF l) hs1 (k := 8) (by omega); have q9 := SupAt.cell (f := readF l) hs1 (k := 9) (by omega); have q10 := SupAt.cell (f := readF l) hs1 (k := 10) (by omega); have HZ1 := Lib.hid hz1; have HS1 := Lib.hid hs1; have HI1 := Lib.hid hi1; clear hz1 hi1)
        | (go_at_call 83; (with_reducible refine (P.out _).mono ?_); rintro e w2 ⟨A2, m2, c2, rfl, hB2, hb2⟩; have HB2 := Lib.hid hB2; clear hB2; have hz2 := (hb2.block _ (block_lt HZ1.out)).trans HZ1.out; have hi2 := (hb2.block _ (block_lt HI1.out)).trans HI1.out; have ci2 : w2.cell? ⟨w.heap.size, 0, none⟩ = some (.slice A n c) := (by rw [cell_of_row w2 w.heap.size 0 _ _ _ hi2]; rfl); clear hi2; have z0 := SupAt.cell (f := fun _ => 0) hz2 (k := 0) (by omega); have y0 := Lib.frozen_of_heap hz2 0; have z1 := SupAt.cell (f := fun _ => 0) hz2 (k := 1) (by omega); have y1 := Lib.frozen_of_heap hz2 1; have z2 := SupAt.cell (f := fun _ => 0) hz2 (k := 2) (by omega); have y2 := Lib.frozen_of_heap hz2 2; have z3 := SupAt.cell (f := fun _ => 0) hz2 (k := 3) (by omega); have y3 := Lib.frozen_of_heap hz2 3; have z4 := SupAt.cell (f := fun _ => 0) hz2 (k := 4) (by omega); have y4 := Lib.frozen_of_heap hz2 4; have z5 := SupAt.cell (f := fun _ => 0) hz2 (k := 5) (by omega); have y5 := Lib.frozen_of_heap hz2 5; have z6 := SupAt.cell (f := fun _ => 0) hz2 (k := 6) (by omega); have y6 := Lib.frozen_of_heap hz2 6; have z7 := SupAt.cell (f := fun _ => 0) hz2 (k := 7) (by omega); have y7 := Lib.frozen_of_heap hz2 7; have z8 := SupAt.cell (f := fun _ => 0) hz2 (k := 8) (by omega); have y8 := Lib.frozen_of_heap hz2 8; have z9 := SupAt.cell (f := fun _ => 0) hz2 (k := 9) (by omega); have y9 := Lib.frozen_of_heap hz2 9; have z10 := SupAt.cell (f := fun _ => 0) hz2 (k := 10) (by omega); have y10 := Lib.frozen_of_heap hz2 10)
        | (go_at_call 84; refine (Equal_any A2 m2 c2 (encS (readF l)) A n c l _ HB2.out (HB.out.below (hb1.trans (hb2.mono hb1.size))) false (by simpa using HL.out)).mono ?_; rintro e w' ⟨rfl, rfl⟩))
      refine bodyPost_ret (results_sup Tryz.results35 _ _ (w.heap.size + 1) (fun _ => 0) rfl (SupAt.store hz2 (fun _ => 0))) rfl ?_
      exact ⟨rfl, below_store (hb1.trans (hb2.mono hb1.size)) (by omega) _ _ _ _ _ _ _ _ _ _ _⟩

end Go.Proofs.YtbeobbanppkmhaaGreatDoor

/-
  Layer 11: what a block of an image is, read as a superblock, a node, counts, an index; a block sealed and written.
-/
namespace Go.Proofs.YtbeobbanppkmhaaGreatDoor
open Go.RowKit
set_option linter.unusedVariables false
set_option linter.unusedSimpArgs false

/-- is there no block no among n? -/
def outB (n : Nat) (no : Int) : Bool := decide (no < 0) || decide ((n : Int) ≤ no)
theorem outB_iff {n : Nat} {no : Int} : outB n no = true ↔ no < 0 ∨ (n : Int) ≤ no := by simp [outB]
theorem outB_not {n : Nat} {no : Int} : outB n no = false ↔ 0 ≤ no ∧ no < (n : Int) := by
  rw [← Bool.not_eq_true, outB_iff]
  omega
/-- what a block of a kind has within -/
def inE11 (L : List UInt8) (n : Nat) (no kind : Int) : Int := if outB n no = true then 3 else openE (blk L no.toNat) kind no
def inB11 (L : List UInt8) (n : Nat) (no kind : Int) : List UInt8 := if outB n no = true then [] else openB (blk L no.toNat) kind no

def nodE11 (L : List UInt8) (n : Nat) (no tree : Int) : Int := if inE11 L n no 2 ≠ 0 then inE11 L n no 2 else if readNE (inB11 L n no 2) ≠ 0 then readNE (inB11 L n no 2) else if tree ≠ 0 ∧ (readN (inB11 L n no 2)).tree ≠ tree then 6 else 0
def nodN11 (L : List UInt8) (n : Nat) (no tree : Int) : Nod := if nodE11 L n no tree = 0 then readN (inB11 L n no 2) else Nod.zero
def bitE11 (L : List UInt8) (n : Nat) (no : Int) : Int := if inE11 L n no 3 ≠ 0 then inE11 L n no 3 else readBE9 (inB11 L n no 3)
def bitL11 (L : List UInt8) (n : Nat) (no : Int) : List Int := if inE11 L n no 3 ≠ 0 then [] else readBL9 (inB11 L n no 3)
def sltE11 (L : List UInt8) (n : Nat) (no : Int) : Int := if inE11 L n no 4 ≠ 0 then inE11 L n no 4 else readSE10 (inB11 L n no 4)
def sltL11 (L : List UInt8) (n : Nat) (no : Int) : List Slt := if inE11 L n no 4 ≠ 0 then [] else readSL10 (inB11 L n no 4)
def wrE11 (n : Nat) (no kind : Int) (l : List UInt8) : Int := if sealE kind no l.length ≠ 0 then sealE kind no l.length else if outB n no = true then 3 else 0
def wrL11 (L : List UInt8) (n : Nat) (no kind : Int) (l : List UInt8) : List UInt8 := if wrE11 n no kind l = 0 then splice L (no.toNat * 256) (sealB kind no l) else L

theorem wrE11_zero {n : Nat} {no kind : Int} {l : List UInt8} (h : wrE11 n no kind l = 0) : sealE kind no l.length = 0 ∧ outB n no = false := by
  unfold wrE11 at h
  split at h
  · rename_i h1
    exact absurd h h1
  · rename_i h1
    split at h
    · cases h
    · rename_i h2
      exact ⟨by omega, by simpa using h2⟩
theorem wrL11_length {L : List UInt8} {n : Nat} {no kind : Int} {l : List UInt8} (hL : L.length = n * 256) : (wrL11 L n no kind l).length = n * 256 := by
  unfold wrL11
  split
  · rename_i h
    obtain ⟨h1, h2⟩ := wrE11_zero h
    obtain ⟨h3, h4⟩ := outB_not.1 h2
    rw [length_splice _ _ _ (by rw [sealB_length h1, hL]; omega), hL]
  · exact hL

/-- the block that was written -/
theorem blk_written {L : List UInt8} {n : Nat} {no kind : Int} {l : List UInt8} (hL : L.length = n * 256) (h : wrE11 n no kind l = 0) : blk (wrL11 L n no kind l) no.toNat = sealB kind no l := by
  obtain ⟨h1, h2⟩ := wrE11_zero h
  obtain ⟨h3, h4⟩ := outB_not.1 h2
  rw [wrL11, if_pos h, blk_splice hL (sealB_length h1) (by omega) (by omega), if_pos rfl]
/-- it is read under its own kind -/
theorem in_written {L : List UInt8} {n : Nat} {no kind : Int} {l : List UInt8} (hL : L.length = n * 256) (h : wrE11 n no kind l = 0) : inE11 (wrL11 L n no kind l) n no kind = 0 ∧ inB11 (wrL11 L n no kind l) n no kind = l ++ List.replicate (244 - l.length) 0 := by
  obtain ⟨h1, h2⟩ := wrE11_zero h
  obtain ⟨e1, e2⟩ := openE_seal h1
  simp only [inE11, inB11, h2, blk_written hL h]
  exact ⟨e1, e2⟩
/-- as another kind its checksum is wrong -/
theorem open_other {k k2 no : Int} {l : List UInt8} (h : openE l k no = 0) (h2 : 1 ≤ k2 ∧ k2 ≤ 4) (hk : k ≠ k2) : openE l k2 no = 4 := by
  obtain ⟨g1, g2, g3, g4, g5, g6⟩ := openE_zero h
  obtain ⟨g7, g8, g9⟩ := knownB_iff.1 g1
  have hkn : knownB k2 no = true := knownB_iff.2 ⟨h2, g8, g9⟩
  unfold openE
  rw [hkn, if_neg (by decide), if_neg (by omega), if_pos]
  intro e
  exact hk (kind_wrong g3 (by omega) g7 h2)
theorem in_other {L : List UInt8} {n : Nat} {no kind k2 : Int} {l : List UInt8} (hL : L.length = n * 256) (h : wrE11 n no kind l = 0) (h2 : 1 ≤ k2 ∧ k2 ≤ 4) (hk : kind ≠ k2) : inE11 (wrL11 L n no kind l) n no k2 = 4 := by
  obtain ⟨h1, h3⟩ := wrE11_zero h
  obtain ⟨e1, e2⟩ := openE_seal h1
  simp only [inE11, h3, blk_written hL h]
  exact open_other e1 h2 hk
/-- a node that was written -/
theorem nod_written {L : List UInt8} {n : Nat} {no : Int} {nd : Nod} (hL : L.length = n * 256) (hr : rightN nd = true) (hn : outB n no = false) (h0 : (n : Int) ≤ 14400) :
    wrE11 n no 2 (encNod nd) = 0 ∧ (∀ tree, tree = 0 ∨ tree = nd.tree → nodE11 (wrL11 L n no 2 (encNod nd)) n no tree = 0 ∧ nodN11 (wrL11 L n no 2 (encNod nd)) n no tree = nd) ∧
      (∀ tree, tree ≠ 0 → tree ≠ nd.tree → nodE11 (wrL11 L n no 2 (encNod nd)) n no tree = 6) ∧ bitE11 (wrL11 L n no 2 (encNod nd)) n no = 4 ∧ sltE11 (wrL11 L n no 2 (encNod nd)) n no = 4 := by
  obtain ⟨g1, g2⟩ := outB_not.1 hn
  have hl := encNod_length hr
  have hs : sealE 2 no (encNod nd).length = 0 := by
    rw [sealE, knownB_iff.2 ⟨by omega, g1, by omega⟩, hl]
    decide
  have hw : wrE11 n no 2 (encNod nd) = 0 := by rw [wrE11, hs, hn]; rfl
  obtain ⟨e1, e2⟩ := in_written hL hw
  rw [hl, List.replicate_zero, List.append_nil] at e2
  obtain ⟨r1, r2⟩ := nod_read hr
  have r3 : readN (encNod nd) = nd := by rw [readN, if_pos r1, r2]
  refine ⟨hw, fun tree ht => ?_, fun tree h1 h2 => ?_, ?_, ?_⟩
  · have he : nodE11 (wrL11 L n no 2 (encNod nd)) n no tree = 0 := by
      rw [nodE11, if_neg (by omega), e2, if_neg (by omega), r3, if_neg]
      rintro ⟨a, b⟩
      rcases ht with rfl | rfl
      · exact a rfl
      · exact b rfl
    exact ⟨he, by rw [nodN11, if_pos he, e2, r3]⟩
  · rw [nodE11, if_neg (by omega), e2, if_neg (by omega), r3, if_pos ⟨h1, fun e => h2 e.symm⟩]
  · rw [bitE11, if_pos (by rw [in_other hL hw (by omega) (by omega)]; decide), in_other hL hw (by omega) (by omega)]
  · rw [sltE11, if_pos (by rw [in_other hL hw (by omega) (by omega)]; decide), in_other hL hw (by omega) (by omega)]

end Go.Proofs.YtbeobbanppkmhaaGreatDoor
