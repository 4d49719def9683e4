/-
  Layer 6's reference: Put.
-/
import Derived.Test.YtfebifpofhodoaaSupE
import Derived.Lib.SmallJoins
import Derived.ArgAppend
namespace Go.Proofs.Ytfebifpofhodoaa
open Go.RowKit
set_option linter.unusedVariables false
set_option linter.unusedSimpArgs false

set_option maxRecDepth 100000 in
set_option maxHeartbeats 400000 in
theorem refSPut_bad (w : World) (f : Nat → Int) (h : allB f 11 = false) : Calls Try.prog 7 #[supV f] w fun e w' => e = .returned (.tuple #[.slice none 0 0, .int .i64 1]) ∧ Below w.heap.size w w' := by
  have R : Hid (∀ W, Below w.heap.size w W → Calls Try.prog 9 #[supV f] W fun e w' => e = .returned (.bool false) ∧ Below w.heap.size w w') := fun W hW => (refSRight_any W f).mono fun e w' ⟨h1, h2⟩ => by
    rw [h] at h1
    exact ⟨h1, hW.trans (h2.mono hW.size)⟩
  have hb : Below w.heap.size w (w.alloc (.cells (supC f) 23)) := (Below.refl _ _).alloc (Nat.le_refl _) _
  clear h
  simp only [supV, supC] at R hb ⊢
  go_enter Try.func7, Try.ntmps7
  go_wp2_with (go_at_call 9; (with_reducible refine (R.out _ hb).mono ?_); rintro e w1 ⟨rfl, hb1⟩)
  go_ret2
  exact ⟨rfl, hb1⟩

/-- the integers that the reference lays in a row -/
def rowF (f : Nat → Int) : List Int := [1, f 0, f 1, f 2, f 3, f 4, f 5, f 6, f 7, f 8, f 9, f 10]
theorem rowF_fl (f : Nat → Int) : fl f 11 = (rowF f).map fun x => (4, x) := rfl

/-- the bytes of the first k of them, behind the beginning -/
def soFar (f : Nat → Int) (k : Nat) : List UInt8 := magic ++ encs ((fl f 11).take k)
theorem soFar_length (f : Nat → Int) (k : Nat) (hk : k ≤ 12) : (soFar f k).length = 8 + 4 * k := by
  have key : ∀ l : List Int, (encs (l.map fun x => ((4 : Int), x))).length = 4 * l.length := by
    intro l
    induction l with
    | nil => rfl
    | cons x r ih =>
      simp only [encs, List.map_cons, List.flatMap_cons, List.length_append, encN_length, List.length_cons] at *
      omega
  rw [soFar, List.length_append, rowF_fl, ← List.map_take, key, List.length_take]
  have h1 : (rowF f).length = 12 := rfl
  have h2 : magic.length = 8 := rfl
  rw [h1, h2]
  omega
theorem soFar_succ (f : Nat → Int) (k : Nat) (hk : k < 12) : soFar f (k + 1) = soFar f k ++ encN 4 ((rowF f).getD k 0).toNat := by
  have hl : k < (fl f 11).length := by rw [fl_length]; omega
  have hr : k < (rowF f).length := hk
  rw [soFar, encs_step hl, soFar, List.append_assoc]
  have e : (fl f 11)[k] = (4, (rowF f).getD k 0) := by
    simp only [rowF_fl, List.getElem_map]
    rw [List.getD_eq_getElem?_getD, List.getElem?_eq_getElem hr]
    rfl
  have e1 : (fl f 11)[k].1.toNat = 4 := by rw [e]; rfl
  have e2 : (fl f 11)[k].2 = (rowF f).getD k 0 := by rw [e]
  exact congrArg (fun z => magic ++ (encs (List.take k (fl f 11)) ++ z)) (congr (congrArg encN e1) (congrArg Int.toNat e2))
theorem rowF_bd {f : Nat → Int} (h : ∀ k, k < 11 → 0 ≤ f k ∧ f k ≤ 2147483647) (k : Nat) (hk : k < 12) : 0 ≤ (rowF f).getD k 0 ∧ (rowF f).getD k 0 ≤ 2147483647 := by
  rcases (show k = 0 ∨ k = 1 ∨ k = 2 ∨ k = 3 ∨ k = 4 ∨ k = 5 ∨ k = 6 ∨ k = 7 ∨ k = 8 ∨ k = 9 ∨ k = 10 ∨ k = 11 by omega) with rfl | rfl | rfl | rfl | rfl | rfl | rfl | rfl | rfl | rfl | rfl | rfl
  · simp [rowF]
  all_goals exact h _ (by omega)

/-- the reference's bytes: at first the constant's own row, then a row of the call's -/
def Part (w : World) (base : Nat) (v : Value) (k : Nat) (bs : List UInt8) : Prop :=
  (k = 0 ∧ ∃ g, v = .slice (some ⟨g, 0, none⟩) 8 8 ∧ w.heap[g]? = some (.cells (u8s magic).toArray 5 (8, 9)) ∧ bs = magic) ∨ (0 < k ∧ w.ownsRow base 5 1 v bs.length (u8s bs))

def lenV6 : Value → Nat
  | .slice _ n _ => n
  | _ => 0

set_option maxRecDepth 100000 in
set_option maxHeartbeats 3200000 in
theorem refSPut_good (w : World) (f : Nat → Int) (h : allB f 11 = true) : Calls Try.prog 7 #[supV f] w fun e w' => ∃ A c, e = .returned (.tuple #[.slice A 244 c, .int .i64 0]) ∧ Bytes8 w' A 244 c (encS f) ∧ Below w.heap.size w w' := by
  have HBD := Lib.hid (rowF_bd (fun k hk => allB_bounds h (k := k) hk))
  have hsup := heap_alloc_new w (.cells (supC f) 23)
  have hb0 : Below w.heap.size w (w.alloc (.cells (supC f) 23)) := (Below.refl _ _).alloc (Nat.le_refl _) _
  have R : Hid (Calls Try.prog 9 #[supV f] (w.alloc (.cells (supC f) 23)) fun e w' => e = .returned (.bool true) ∧ Below w.heap.size w w' ∧ SupAt w' w.heap.size f) := (refSRight_any _ f).mono fun e w' ⟨h1, h2⟩ => by
    rw [h] at h1
    exact ⟨h1, hb0.trans (h2.mono hb0.size), (h2.block _ (block_lt hsup)).trans hsup⟩
  obtain ⟨i0, hi0, hz0, hz1, hz2⟩ := info_parts info_u8
  clear h hsup hb0
  simp only [supV, supC] at R ⊢
  go_enter Try.func7, Try.ntmps7
  go_wp2_with (first
    | (go_at_call 9; (with_reducible refine (R.out).mono ?_); rintro e w1 ⟨rfl, hb1, hs1⟩; have c0 := hs1.cell (k := 0) (by omega); have c1 := hs1.cell (k := 1) (by omega); have c2 := hs1.cell (k := 2) (by omega); have c3 := hs1.cell (k := 3) (by omega); have c4 := hs1.cell (k := 4) (by omega); have c5 := hs1.cell (k := 5) (by omega); have c6 := hs1.cell (k := 6) (by omega); have c7 := hs1.cell (k := 7) (by omega); have c8 := hs1.cell (k := 8) (by omega); have c9 := hs1.cell (k := 9) (by omega); have c10 := hs1.cell (k := 10) (by omega); have kc := Go.Joins.run_convert_bytes_const_at (P := Try.prog) (w1.alloc (.cells #[.int .i64 1, .int .i64 (f 0), .int .i64 (f 1), .int .i64 (f 2), .int .i64 (f 3), .int .i64 (f 4), .int .i64 (f 5), .int .i64 (f 6), .int .i64 (f 7), .int .i64 (f 8), .int .i64 (f 9), .int .i64 (f 10)] 3)) 24 5 #[.int .u8 83, .int .u8 67, .int .u8 65, .int .u8 78, .int .u8 84, .int .u8 76, .int .u8 73, .int .u8 78] 8 8 (w1.heap.size + 1) (by simp) Try.underlying24 Try.underlying5))
  obtain ⟨t1, t2, tb⟩ := two_new w1 (.cells (i64s (rowF f)).toArray 3) (.cells (u8s magic).toArray 5 (8, 9))
  have HC : Hid (∀ k, k < 12 → ((w1.alloc (.cells (i64s (rowF f)).toArray 3)).alloc (.cells (u8s magic).toArray 5 (8, 9))).cell? ⟨w1.heap.size, k, none⟩ = some (.int .i64 ((rowF f).getD k 0))) := fun k hk => by
    rw [cell_of_row _ w1.heap.size k _ _ _ t1]
    have h1 : k < (rowF f).length := hk
    have := i64s_at (rowF f) k h1
    rw [List.getElem?_toArray, this, List.getD_eq_getElem?_getD, List.getElem?_eq_getElem h1]
    rfl
  have HS0 : Hid (Part ((w1.alloc (.cells (i64s (rowF f)).toArray 3)).alloc (.cells (u8s magic).toArray 5 (8, 9))) (w1.heap.size + 2) (.slice (some ⟨w1.heap.size + 1, 0, none⟩) 8 8) 0 (soFar f 0)) := .inl ⟨rfl, _, rfl, t2, by simp [soFar, encs]⟩
  have HB0 : Hid (Below w.heap.size w ((w1.alloc (.cells (i64s (rowF f)).toArray 3)).alloc (.cells (u8s magic).toArray 5 (8, 9)))) := hb1.trans (tb.mono hb1.size)
  have HSz : Hid (w1.heap.size + 2 ≤ ((w1.alloc (.cells (i64s (rowF f)).toArray 3)).alloc (.cells (u8s magic).toArray 5 (8, 9))).heap.size) := by simp [Hid]
  have HE0 : Hid (w.heap.size ≤ w1.heap.size) := hb1.size
  have e0 : ((w1.alloc (.cells #[.int .i64 1, .int .i64 (f 0), .int .i64 (f 1), .int .i64 (f 2), .int .i64 (f 3), .int .i64 (f 4), .int .i64 (f 5), .int .i64 (f 6), .int .i64 (f 7), .int .i64 (f 8), .int .i64 (f 9), .int .i64 (f 10)] 3)).alloc (.cells #[.int .u8 83, .int .u8 67, .int .u8 65, .int .u8 78, .int .u8 84, .int .u8 76, .int .u8 73, .int .u8 78] 5 (8, 9))) = ((w1.alloc (.cells (i64s (rowF f)).toArray 3)).alloc (.cells (u8s magic).toArray 5 (8, 9))) := rfl
  try rw [e0]
  clear e0 kc t1 t2 tb hb1 hs1 c0 c1 c2 c3 c4 c5 c6 c7 c8 c9 c10 R
  generalize ((w1.alloc (.cells (i64s (rowF f)).toArray 3)).alloc (.cells (u8s magic).toArray 5 (8, 9))) = ws at *
  generalize w1.heap.size = gl at *
  go_loopw [5, 6] (fun v i wr => ∃ k : Nat, k ≤ 12 ∧ i = .int .i64 k ∧ Hid (Part wr (gl + 2) v k (soFar f k)) ∧ gl + 2 ≤ wr.heap.size ∧ Below (gl + 2) ws wr) (fun _ i _ => 12 - (intOf i).toNat)
  case atStart => exact ⟨0, by omega, rfl, HS0, HSz.out, Below.refl _ _⟩
  case round =>
    clear HS0
    obtain ⟨k, hk, rfl, HP, hs, hbel⟩ := hrel
    by_cases hlt : k < 12
    · have hck := (hbel.cell (p := ⟨gl, k, none⟩) (by simp)).trans (HC.out k hlt)
      have HSL := Lib.hid (soFar_length f k hk)
      have HSN := Lib.hid (soFar_succ f k hlt)
      have hbd := HBD.out k hlt
      generalize (rowF f).getD k 0 = x at *
      obtain ⟨hb1, hb2⟩ := hbd
      obtain ⟨y, rfl⟩ := Int.eq_ofNat_of_zero_le hb1
      have hy : y ≤ 2147483647 := by omega
      have BY : Hid (∀ W, Calls Try.prog 16 #[.int .i64 (y : Int), .int .i64 4] W fun e w' => ∃ v', e = .returned v' ∧ w'.ownsRow W.heap.size 5 1 v' 4 (u8s (encN 4 y)) ∧ Below W.heap.size W w') := fun W => Bytes_any y 4 W (by omega) (by omega)
      clear hb1 hb2
      by_cases hk0 : k = 0
      · subst hk0
        obtain ⟨_, g, rfl, hg, hbs⟩ : (0 : Nat) = 0 ∧ ∃ g, u5 = .slice (some ⟨g, 0, none⟩) 8 8 ∧ wr.heap[g]? = some (.cells (u8s magic).toArray 5 (8, 9)) ∧ soFar f 0 = magic := by
          rcases HP.out with h | ⟨h, _⟩
          · exact h
          · omega
        have HG := Lib.hid hg
        clear hg
        go_wp2_with (first
          | (go_at_call 16; (with_reducible refine (BY.out _).mono ?_); rintro e w2 ⟨v2, rfl, ho2, hb2⟩; obtain ⟨A2, c2, rfl, hB2⟩ := Bytes8.of_own ho2; obtain ⟨ad2, rfl⟩ := hB2.row.some_of (by rw [u8s_length, hB2.len]; omega); have HB2 := Lib.hid hB2; clear hB2 ho2; have hg2 := Lib.hid ((hb2.block g (block_lt HG.out)).trans HG.out))
          | (at_builtin; refine wpList_append_grows w2 rfl (.tmp 41) (.tmp 46) 24 rfl 5 i0 _ 1 1 Try.underlying24 hi0 hz0 hz1 hz2 rfl (by omega) (some ⟨g, 0, none⟩) 8 8 (u8s magic) rfl (by simp) rfl (fun b e j u hj => by cases e; exact (Row.of_block hg2.out).at_ hj) ad2 4 c2 (u8s (encN 4 y)) rfl (by rw [u8s_length, encN_length]) (fun j u hj => HB2.out.row.at_ hj) (u8s_one _) (by omega) (by simp [maxLen]) (by omega) ?_; intro v3 w3 ho3 hg3; have HO3 := Lib.hid ho3; have hb3 := below_of_grown hg3 (by simp); clear ho3))
        go_roundw
        case rel =>
          have hb23 := hb2.trans (hb3.mono hb2.size)
          refine ⟨1, by omega, rfl, .inr ⟨by omega, ?_⟩, by have := hb23.size; omega, hbel.trans (hb23.mono hs)⟩
          rw [HSN.out, hbs, u8s_append, List.length_append, encN_length]
          exact Go.Joins.ownsRow_le HO3.out (by have := hb2.size; omega)
        case measure => simp [intOf]
      · have hown : Hid (wr.ownsRow (gl + 2) 5 1 u5 (8 + 4 * k) (u8s (soFar f k))) := by
          rcases HP.out with ⟨h, _⟩ | ⟨_, h⟩
          · exact absurd h hk0
          · rw [HSL.out] at h
            exact h
        clear HP
        go_wp2_with (first
          | (go_at_call 16; (with_reducible refine (BY.out _).mono ?_); rintro e w2 ⟨v2, rfl, ho2, hb2⟩; obtain ⟨A2, c2, rfl, hB2⟩ := Bytes8.of_own ho2; have HB2 := Lib.hid hB2; clear hB2 ho2; have hown2 := own_below hown hb2; have hs2 := Nat.le_trans hs hb2.size)
          | (at_builtin; refine wpList_append_row w2 rfl (.tmp 41) (.tmp 46) 24 rfl (gl + 2) 5 _ 1 Try.underlying24 info_u8 rfl u5 (8 + 4 * k) (u8s (soFar f k)) rfl hown2 hs2 A2 (u8s (encN 4 y)) 4 c2 rfl (by rw [u8s_length, encN_length]) HB2.out.row (u8s_one _) (by omega) (by omega) ?_; intro v3 w3 HO3 hs3 hb3))
        go_roundw
        case rel =>
          refine ⟨k + 1, by omega, by go_num, .inr ⟨by omega, ?_⟩, hs3, (hbel.trans (hb2.mono hs)).trans hb3⟩
          rw [HSN.out, u8s_append, List.length_append, encN_length, HSL.out]
          exact HO3.out
        case measure => simp [intOf]; omega
    · obtain rfl : k = 12 := by omega
      have hown : Hid (wr.ownsRow (gl + 2) 5 1 u5 56 (u8s (soFar f 12))) := by
        rcases HP.out with ⟨h, _⟩ | ⟨_, h⟩
        · omega
        · rw [soFar_length f 12 (by omega)] at h
          exact h
      clear HP HC HBD
      have HL12 := Lib.hid (soFar_length f 12 (by omega))
      have HES : Hid (encS f = soFar f 12 ++ List.replicate 188 0) := by
        show encS f = soFar f 12 ++ List.replicate 188 0
        rw [soFar, List.take_of_length_le (by rw [fl_length]; omega), encS, List.append_assoc]
      generalize soFar f 12 = b12 at *
      clear hk hlt
      rw [show ((12 : Nat) : Int) = 12 from rfl]
      go_wp2
      go_loopw [5] (fun v w3 => ∃ j : Nat, 56 + j ≤ 244 ∧ Hid (w3.ownsRow (gl + 2) 5 1 v (56 + j) (u8s (b12 ++ List.replicate j 0))) ∧ gl + 2 ≤ w3.heap.size ∧ Below (gl + 2) ws w3) (fun v _ => 244 - lenV6 v)
      case atStart => exact ⟨0, by omega, by simpa using hown, hs, hbel⟩
      case round =>
        clear hown hs hbel
        obtain ⟨j, hj, hown, hs, hbel⟩ := hrel
        obtain ⟨A5, c5, hv5, h51, h52⟩ := ownsRow_form hown.out
        obtain rfl := hv5
        by_cases hlt : j < 188
        · go_wp2_with (at_builtin; refine wpList_append_new _ rfl (.tmp 51) (.tmp 52) 24 rfl (gl + 2) 5 _ _ 1 Try.underlying24 info_u8 rfl (.slice A5 (56 + j) c5) (56 + j) (u8s (b12 ++ List.replicate j 0)) rfl hown hs [_] 1 1 rfl rfl (by simp [Value.oneCell']) (by omega) (by omega) ?_; intro v3 w3 HO3 hs3 hb3)
          go_roundw
          case rel =>
            refine ⟨j + 1, by omega, ?_, hs3, hbel.trans hb3⟩
            have e : u8s (b12 ++ List.replicate (j + 1) 0) = u8s (b12 ++ List.replicate j 0) ++ [.int .u8 0] := by
              rw [List.replicate_succ', ← List.append_assoc, u8s_append]; rfl
            rw [e]
            exact HO3
          case measure =>
            obtain ⟨A6, c6, rfl, _, _⟩ := ownsRow_form HO3.out
            simp [lenV6]; omega
        · obtain rfl : j = 188 := by omega
          go_wp2
          go_ret2
          have hB := Bytes8.of_own hown.out
          obtain ⟨A6, c6, hv6, hB6⟩ := hB
          injection hv6 with e1 e2 e3
          subst e1; subst e3
          have hE := HE0.out
          exact ⟨_, _, rfl, by rw [HES.out]; exact hB6, HB0.out.trans (hbel.mono (by omega))⟩

theorem refSPut_any (w : World) (f : Nat → Int) : Calls Try.prog 7 #[supV f] w fun e w' => ∃ A m c, e = .returned (.tuple #[.slice A m c, .int .i64 (putSE f)]) ∧ Bytes8 w' A m c (putSB f) ∧ Below w.heap.size w w' := by
  cases h : allB f 11 with
  | false =>
    refine (refSPut_bad w f h).mono ?_
    rintro e w' ⟨rfl, hb⟩
    exact ⟨none, 0, 0, by rw [putSE, if_neg (by simp [h])], by rw [putSB, if_neg (by simp [h])]; exact Bytes8.nil _, hb⟩
  | true =>
    refine (refSPut_good w f h).mono ?_
    rintro e w' ⟨A, c, rfl, hO, hb⟩
    exact ⟨_, 244, c, by rw [putSE, if_pos h], by rw [putSB, if_pos h]; exact hO, hb⟩

end Go.Proofs.Ytfebifpofhodoaa
