/-
  Layer 1's Unpack and the reference's.
-/
import Derived.Test.YtolapeocdaknjaaCodeG
namespace Go.Proofs.Ytolapeocdaknjaa
open Go.RowKit
set_option linter.unusedVariables false
set_option linter.unusedSimpArgs false

def i64b' (x : Int) : Prop := -9223372036854775808 ≤ x ∧ x ≤ 9223372036854775807

/-- what Unpack gives from offset i on: the error, and the numbers so far -/
def unpE (b : List UInt8) : Int → List Int → Int
  | _, [] => 0
  | i, wd :: r => if getE b i wd = 0 then unpE b (i + wd) r else getE b i wd
def unpL (b : List UInt8) : Int → List Int → List Int
  | _, [] => []
  | i, wd :: r => getN b i wd :: unpL b (i + wd) r
def sumL (l : List Int) : Int := l.foldr (· + ·) 0
def unpN (b : List UInt8) (l : List Int) : List Int := if unpE b 0 l = 0 then unpL b 0 l else []

theorem unpE_append (b : List UInt8) (i : Int) (x y : List Int) : unpE b i (x ++ y) = if unpE b i x = 0 then unpE b (i + sumL x) y else unpE b i x := by
  induction x generalizing i with
  | nil => simp [unpE, sumL]
  | cons wd r ih =>
    simp only [List.cons_append, unpE]
    split
    · rw [ih]
      simp only [sumL, List.foldr_cons, Int.add_assoc]
    · rename_i h; simp [h]

theorem unpL_append (b : List UInt8) (i : Int) (x y : List Int) : unpL b i (x ++ y) = unpL b i x ++ unpL b (i + sumL x) y := by
  induction x generalizing i with
  | nil => simp [unpL, sumL]
  | cons wd r ih =>
    simp only [List.cons_append, unpL, ih, sumL, List.foldr_cons, Int.add_assoc]

theorem unpL_length (b : List UInt8) (i : Int) (x : List Int) : (unpL b i x).length = x.length := by
  induction x generalizing i with
  | nil => rfl
  | cons wd r ih => simp [unpL, ih]

theorem sumL_append (x y : List Int) : sumL (x ++ y) = sumL x + sumL y := by
  induction x with
  | nil => simp [sumL]
  | cons a r ih => simp only [sumL, List.cons_append, List.foldr_cons] at *; omega

/-- while no error came, the offset lies within the bytes -/
theorem getE_zero {b : List UInt8} {i wd : Int} (h : getE b i wd = 0) : isW wd = true ∧ 0 ≤ i ∧ i + wd ≤ b.length := by
  rcases roomE_cases b.length i wd with hr | hr | ⟨hr, hw, h0, h1⟩
  · simp [getE, hr] at h
  · simp [getE, hr] at h
  · exact ⟨hw, h0, h1⟩

theorem unpE_zero {b : List UInt8} {i : Int} {x : List Int} (h : unpE b i x = 0) (h0 : 0 ≤ i) (h1 : i ≤ b.length) : 0 ≤ i + sumL x ∧ i + sumL x ≤ b.length := by
  induction x generalizing i with
  | nil => simp [sumL]; omega
  | cons wd r ih =>
    simp only [unpE] at h
    split at h
    · rename_i hg
      obtain ⟨hw, h2, h3⟩ := getE_zero hg
      have hb : 1 ≤ wd := by rcases isW_cases hw with h | h | h | h <;> omega
      have := ih h (by omega) (by omega)
      simp only [sumL, List.foldr_cons] at *
      omega
    · rename_i hg; exact absurd h hg


theorem getN_bounds (b : List UInt8) (i wd : Int) : 0 ≤ getN b i wd ∧ getN b i wd ≤ 9223372036854775807 := by
  unfold getN
  split
  · rename_i h
    have : leN (part b i wd) < 9223372036854775808 := by
      by_cases hx : leN (part b i wd) < 9223372036854775808
      · exact hx
      · unfold getE at h
        split at h
        · rw [if_pos (by omega)] at h; cases h
        · rename_i h2; exact absurd h h2
    omega
  · omega

set_option maxHeartbeats 800000 in
theorem refUnpack_any (A : Option Addr) (n c : Nat) (l : List UInt8) (A2 : Option Addr) (n2 c2 : Nat) (ws : List Int) (w : World) (h : Bytes8 w A n c l) (hw : Ints w A2 n2 c2 ws) (hbs : ∀ x ∈ ws, i64b' x) (hn : n2 ≤ 1000000) (hn1 : n ≤ 1000000000) :
    Calls Try.prog 33 #[.slice A n c, .slice A2 n2 c2] w fun e w' => ∃ A' m c', e = .returned (.tuple #[.slice A' m c', .int .i64 (unpE l 0 ws)]) ∧ Ints w' A' m c' (unpN l ws) ∧ Below w.heap.size w w' := by
  by_cases hp : 0 < n2
  · obtain ⟨b, off, rfl, hb, hcell⟩ := hw.row.lit (by rw [i64s_length, hw.len]; omega)
    have HB := Lib.hid h
    have HW := Lib.hid hw
    have HC := Lib.hid hcell
    have HBS := Lib.hid hbs
    clear h hw hcell hbs
    go_enter Try.func33, Try.ntmps33
    go_wp2
    go_loopw [6, 7, 8] (fun v a i wr => ∃ k : Nat, k ≤ n2 ∧ i = .int .i64 k ∧ (∃ s : Int, 0 ≤ s ∧ s ≤ n ∧ a = .int .i64 s ∧ Hid (s = sumL (ws.take k))) ∧ Hid (unpE l 0 (ws.take k) = 0) ∧ Hid (wr.ownsRow w.heap.size 3 1 v k (i64s (unpL l 0 (ws.take k)))) ∧ w.heap.size ≤ wr.heap.size ∧ Below w.heap.size w wr) (fun _ _ i _ => n2 - (intOf i).toNat)
    case atStart => exact ⟨0, by omega, rfl, ⟨0, by omega, by omega, rfl, rfl⟩, rfl, World.ownsRow_nil _ _ _ _, Nat.le_refl _, Below.refl _ _⟩
    case round =>
      obtain ⟨k, hk, rfl, ⟨s, hs0, hs1, rfl, hS⟩, hE, hown, hs, hbel⟩ := hrel
      by_cases hlt : k < n2
      · have hkl : k < ws.length := by have := HW.out.len; omega
        have hc0 : wr.cell? ⟨b, off + k, none⟩ = some (.int .i64 ws[k]) := (hbel.cell (p := ⟨b, off + k, none⟩) hb).trans (HC.out _ _ (i64s_at ws k hkl))
        have hbd := HBS.out ws[k] (List.getElem_mem _)
        obtain ⟨hb1, hb2⟩ := hbd
        have hat : unpE l 0 ws = unpE l s (ws[k] :: ws.drop (k + 1)) := by
          conv => lhs; rw [← List.take_append_drop k ws, unpE_append, hE.out, ← hS.out, List.drop_eq_getElem_cons hkl]
          simp
        have htk : ws.take (k + 1) = ws.take k ++ [ws[k]] := List.take_succ_eq_append_getElem hkl
        have hE1 : unpE l 0 (ws.take (k + 1)) = unpE l s [ws[k]] := by
          rw [htk, unpE_append, hE.out, ← hS.out]; simp
        have hL1 : unpL l 0 (ws.take (k + 1)) = unpL l 0 (ws.take k) ++ [getN l s ws[k]] := by
          rw [htk, unpL_append, ← hS.out]; simp [unpL]
        have hS1 : sumL (ws.take (k + 1)) = s + ws[k] := by
          rw [htk, sumL_append, ← hS.out]; simp [sumL]
        have HT := Lib.hid (getN_bounds l s ws[k])
        clear htk
        generalize ws[k] = a at *
        have G : Hid (Calls Try.prog 20 #[.slice A n c, .int .i64 s, .int .i64 a] wr fun e w' => e = .returned (.tuple #[.int .i64 (getN l s a), .int .i64 (getE l s a)]) ∧ Below wr.heap.size wr w') :=
          (refGet_any A n c l s a wr ⟨HB.out.len, HB.out.cap, HB.out.most, fun k v hk => by obtain ⟨ad, e, hc⟩ := HB.out.row k v hk; exact ⟨ad, e, (hbel.cell (cell_lt hc)).trans hc⟩⟩ (by omega)).mono fun e w' ⟨h1, h2⟩ => ⟨h1, h2 ▸ Below.refl _ _⟩
        by_cases hg : getE l s a = 0
        · obtain ⟨hw8, hg1, hg2⟩ := getE_zero hg
          have ha8 : 1 ≤ a ∧ a ≤ 8 := by rcases isW_cases hw8 with h | h | h | h <;> omega
          obtain ⟨ha1, ha8⟩ := ha8
          have hsn : s + a ≤ n := by have := HB.out.len; omega
          have hE2 : Hid (unpE l 0 (ws.take (k + 1)) = 0) := by rw [hE1]; simp [unpE, hg, Hid]
          have hL2 := Lib.hid hL1
          have hS2 := Lib.hid hS1
          rw [hg] at G
          generalize getN l s a = x at *
          clear hat hE1 hL1 hS1 hg hg1 hg2 hw8
          go_wp2_with (first
            | (go_at_call 20; refine (G.out).mono ?_; rintro e w1 ⟨rfl, hb1⟩; have ho1 := own_below hown hb1; have hs1 := Nat.le_trans hs hb1.size; have hc1 := (hb1.cell (cell_lt hc0)).trans hc0; have hw1 := hbel.trans (hb1.mono hs))
            | (at_builtin; refine wpList_append_new w1 rfl (.tmp 30) (.tmp 32) _ rfl w.heap.size 3 _ _ 8 Try.underlying61 info_i64 rfl u6 _ _ rfl ho1 hs1 [_] 1 1 rfl rfl (by simp [Value.oneCell']) (by omega) (by omega) ?_; intro v2 w2 ho2 hs2 hb2; have hc2 := (hb2.cell (p := ⟨b, off + k, none⟩) hb).trans hc1))
          go_roundw
          case rel =>
            refine ⟨k + 1, by omega, by go_num, ⟨s + a, by omega, hsn, rfl, hS2.out.symm⟩, hE2, ?_, hs2, hw1.trans hb2⟩
            have := ho2.out
            rw [hL2.out, i64s_append]
            exact this
          case measure => simp [intOf]; omega
        · have hr : Hid (unpE l 0 ws = getE l s a) := by rw [hat]; simp [unpE, hg, Hid]
          have hne : (getE l s a != 0) = true := by rw [bne_iff_ne]; exact hg
          have hx0 : getN l s a = 0 := by simp [getN, hg]
          rw [hx0] at G
          have hu : Hid (unpN l ws = []) := by simp [unpN, hr.out, hg, Hid]
          generalize getE l s a = x at *
          clear hat hE1 hL1 hS1 hg hx0
          go_wp2_with (go_at_call 20; refine (G.out).mono ?_; rintro e w1 ⟨rfl, hb1⟩; have hw1 := hbel.trans (hb1.mono hs))
          go_ret2
          exact ⟨none, 0, 0, by rw [hr.out]; rfl, by rw [hu.out]; exact Ints.nil _, hw1⟩
      · obtain rfl : k = n2 := by omega
        have hlen := HW.out.len
        have hE' : Hid (unpE l 0 ws = 0) := by
          have := hE.out
          rwa [List.take_of_length_le (by omega)] at this
        have hown' : wr.ownsRow w.heap.size 3 1 u6 k (i64s (unpN l ws)) := by
          have := hown.out
          rw [List.take_of_length_le (by omega)] at this
          simpa [unpN, hE'.out] using this
        obtain ⟨A', c', hv, hB⟩ := Ints.of_own hown'
        have HV := Lib.hid hv
        clear hv hlen
        go_wp2
        go_ret2
        exact ⟨A', _, c', by rw [hE'.out, ← HV.out]; rfl, hB, hbel⟩
  · obtain rfl : n2 = 0 := by omega
    obtain rfl : ws = [] := List.eq_nil_of_length_eq_zero hw.len
    clear h hw
    go_enter Try.func33, Try.ntmps33
    go_wp2
    refine wp_loop_rounds 1 ?_
    rw [rounds_succ]
    go_wp2
    go_ret2
    exact ⟨none, 0, 0, rfl, Ints.nil _, Below.refl _ _⟩

end Go.Proofs.Ytolapeocdaknjaa
