/-
  Layer 9: the reference's Read.
-/
import Derived.Test.YtdejggdnpnofeaaBitC
import Derived.Test.YtdejggdnpnofeaaBitE
import Derived.Test.YtdejggdnpnofeaaCodeD
namespace Go.Proofs.Ytdejggdnpnofeaa
open Go.RowKit
set_option linter.unusedVariables false
set_option linter.unusedSimpArgs false

/-- what a Read answers -/
def RdP9 (l : List UInt8) (w : World) (e : Ending) (w' : World) : Prop := ∃ A' m c', e = .returned (.tuple #[.slice A' m c', .int .i64 (readBE9 l)]) ∧ Ints w' A' m c' (readBL9 l) ∧ Below w.heap.size w w'
theorem RdP9.bad {l : List UInt8} {w w' : World} (h : ¬ (l.length = 244 ∧ numB l ≤ 960 ∧ encBits (readBits l) = l)) (hb : Below w.heap.size w w') : RdP9 l w (.returned (.tuple #[.slice none 0 0, .int .i64 7])) w' := by
  rcases readBE9_cases l with ⟨e0, e1, h1⟩ | ⟨e0, e1, h1⟩
  · exact absurd h1 h
  · exact ⟨none, 0, 0, by rw [e0], by rw [e1]; exact Ints.nil _, hb⟩
theorem RdP9.good {l : List UInt8} {w w' : World} {A : Option Addr} {m c : Nat} (h : l.length = 244 ∧ numB l ≤ 960 ∧ encBits (readBits l) = l) (hI : Ints w' A m c (readBits l)) (hb : Below w.heap.size w w') : RdP9 l w (.returned (.tuple #[.slice A m c, .int .i64 0])) w' := by
  rcases readBE9_cases l with ⟨e0, e1, h1⟩ | ⟨e0, e1, h1⟩
  · exact ⟨A, m, c, by rw [e0], by rw [e1]; exact hI, hb⟩
  · exact absurd h h1

theorem bit_ne {s s2 : ByteArray} (h : ¬ s = s2) : (s.toList == s2.toList) = false := by
  rw [beq_eq_false_iff_ne]
  intro e
  apply h
  rw [ByteArray.toList_eq, ByteArray.toList_eq] at e
  cases s; cases s2
  congr
  exact Array.toList_inj.1 e

set_option maxHeartbeats 800000 in
theorem refRead_bad9 (A : Option Addr) (n c : Nat) (l : List UInt8) (w : World) (h : Bytes8 w A n c l) (hb : ¬ (n = 244 ∧ numB l ≤ 960)) :
    Calls Try.prog 12 #[.slice A n c] w (RdP9 l w) := by
  have hn := h.le
  have hl := h.len
  have E := Lib.hid (RdP9.bad (l := l) (w := w) (fun hh => hb ⟨hl.symm.trans hh.1, hh.2.1⟩) (Below.refl _ _))
  by_cases h2 : n = 244
  · subst h2
    have G := Lib.hid (refGet_any A 244 c l 0 4 w h (by omega))
    obtain ⟨e1, e2⟩ := bits_get (l := l) (by omega)
    rw [e1, e2] at G
    have h9 : ¬ numB l ≤ 960 := fun hh => hb ⟨rfl, hh⟩
    clear h hl e1 e2 hb
    generalize numB l = N at *
    go_enter Try.func12, Try.ntmps12
    go_wp2_with (go_at_call 20; (with_reducible refine (G.out).mono ?_); rintro e w' ⟨rfl, rfl⟩)
    go_ret2
    exact E.out
  · have hne : ((n : Int) != 244) = true := by simp; omega
    clear h hl hb
    go_enter Try.func12, Try.ntmps12
    go_wp2
    go_ret2
    exact E.out

set_option maxRecDepth 100000 in
set_option maxHeartbeats 3200000 in
theorem refRead_good9 (A : Option Addr) (c : Nat) (l : List UInt8) (w : World) (h : Bytes8 w A 244 c l) (h9 : numB l ≤ 960) :
    Calls Try.prog 12 #[.slice A 244 c] w (RdP9 l w) := by
  have hl := h.len
  have G := Lib.hid (refGet_any A 244 c l 0 4 w h (by omega))
  obtain ⟨e1, e2⟩ := bits_get (l := l) (by omega)
  rw [e1, e2] at G
  obtain ⟨b, off, rfl, hb, hcell⟩ := h.row.lit (by rw [u8s_length]; omega)
  have HC := Lib.hid hcell
  have HL := Lib.hid hl
  have HB := Lib.hid h
  have hcc := h.cap
  have HOK := Lib.hid (readBits_ok (b := l) h9)
  have HRL : Hid ((List.range (numB l)).map (fun i => (digB l i : Int)) = readBits l) := rfl
  have H9 := Lib.hid h9
  clear h hcell hl e1 e2
  generalize hN : numB l = N at *
  have HN := Lib.hid hN
  clear hN
  go_enter Try.func12, Try.ntmps12
  go_wp2_with (go_at_call 20; (with_reducible refine (G.out).mono ?_); rintro e w' ⟨rfl, rfl⟩)
  go_loopw [6, 7] (fun v i wr => ∃ k : Nat, k ≤ N ∧ i = .int .i64 k ∧ Hid (wr.ownsRow w.heap.size 3 1 v k (i64s ((List.range k).map fun m => (digB l m : Int)))) ∧ w.heap.size ≤ wr.heap.size ∧ Hid (Below w.heap.size w wr)) (fun _ i _ => N - (intOf i).toNat)
  case atStart => exact ⟨0, by omega, rfl, World.ownsRow_nil _ _ _ _, Nat.le_refl _, Below.refl _ _⟩
  case round =>
    obtain ⟨k, hk, rfl, hown, hs, hbel⟩ := hrel
    by_cases hlt : k < N
    · have hj : 4 + k / 4 < l.length := by have := HL.out; omega
      have hc1 : wr.cell? ⟨b, off + (4 + k / 4), none⟩ = some (.int .u8 (l[4 + k / 4].toNat : Int)) := (hbel.out.cell (p := ⟨b, off + (4 + k / 4), none⟩) hb).trans (HC.out _ _ (u8s_at l _ hj))
      have HD : Hid (digB l k = l[4 + k / 4].toNat / 4 ^ (k % 4) % 4) := by
        rw [digB, List.getD_eq_getElem?_getD, List.getElem?_eq_getElem hj, Option.getD_some]
        rfl
      have hxb : l[4 + k / 4].toNat ≤ 255 := by have := UInt8.toNat_lt l[4 + k / 4]; omega
      generalize l[4 + k / 4].toNat = X at *
      clear hj
      go_wp2
      go_loop [8, 9] (fun x q => ∃ j y : Nat, j ≤ k % 4 ∧ y ≤ 255 ∧ q = .int .i64 j ∧ x = .int .i64 y ∧ Hid (y = X / 4 ^ j)) (fun _ q => 4 - (intOf q).toNat)
      case atStart => exact ⟨0, X, by omega, by omega, rfl, rfl, by show _ = _; simp⟩
      case round =>
        obtain ⟨j, y, hj, hy, rfl, rfl, HY⟩ := hrel
        by_cases hlt2 : j < k % 4
        · have hd : decide ((j : Int) < (k : Int) % 4) = true := by simp; omega
          go_wp2
          go_round
          case rel => exact ⟨j + 1, y / 4, by omega, by omega, by go_num, rfl, by show _ = _; rw [HY.out, Nat.pow_succ, Nat.div_div_eq_div_mul]⟩
          case measure => simp [intOf]; omega
        · have HE : Hid (digB l k = y % 4) := by
            have e : j = k % 4 := by omega
            rw [HD.out, HY.out, e]; rfl
          have hd : decide ((j : Int) < (k : Int) % 4) = false := by simp; omega
          clear HD
          go_wp2_with (at_builtin; go_must (refine wpList_append_new wr rfl (.tmp 42) (.tmp 45) 22 rfl w.heap.size 3 3 (.int .i64 0) 8 Try.underlying22 info_i64 rfl u6 k _ rfl hown hs [.int .i64 ((y : Int) % 4)] 1 1 rfl rfl (by simp [Value.oneCell']) (by omega) (by omega) ?_); intro v2 w2 hown2 hs2 hb2)
          go_roundw
          case rel =>
            refine ⟨k + 1, by omega, by go_num, ?_, hs2, hbel.out.trans hb2⟩
            have := hown2.out
            rw [show i64s ((List.range (k + 1)).map fun m => (digB l m : Int)) = i64s ((List.range k).map fun m => (digB l m : Int)) ++ [.int .i64 ((y : Int) % 4)] by rw [List.range_succ, List.map_append, i64s_append, List.map_singleton, HE.out]; rfl]
            exact this
          case measure => simp [intOf]; omega
    · obtain rfl : k = N := by omega
      have ho := hown.out
      rw [show (List.range k).map (fun m => (digB l m : Int)) = readBits l from HRL.out] at ho
      obtain ⟨A', c', rfl, hI⟩ := Ints.of_own ho
      have hI1 := Lib.hid hI
      have P := Lib.hid (refPut_any9 A' k c' _ wr hI)
      have ePE : putBE9 (readBits l) = 0 := by rw [putBE9, if_pos HOK.out]
      have ePB : putBB9 (readBits l) = encBits (readBits l) := by rw [putBB9, if_pos HOK.out]
      rw [ePE, ePB] at P
      clear hown ho hI ePE ePB hk hlt
      by_cases he : encBits (readBits l) = l
      · have GD : Hid (∀ W, Below wr.heap.size wr W → RdP9 l w (.returned (.tuple #[.slice A' k c', .int .i64 0])) W) := fun W hW => RdP9.good ⟨HL.out, by rw [HN.out]; exact H9.out, he⟩ (hI1.out.below hW) (hbel.out.trans (hW.mono hs))
        rw [he] at P
        clear he
        go_wp2_with (go_at_call 8; (with_reducible refine (P.out).mono ?_); rintro e w3 ⟨A3, m3, c3, rfl, hB3, hb3⟩; have cv1 := run_str hB3; have cv2 := run_str (HB.out.below (hbel.out.trans (hb3.mono hs))))
        go_ret2
        exact GD.out _ hb3
      · have GB : Hid (∀ W, Below wr.heap.size wr W → RdP9 l w (.returned (.tuple #[.slice none 0 0, .int .i64 7])) W) := fun W hW => RdP9.bad (fun hh => he hh.2.2) (hbel.out.trans (hW.mono hs))
        have hne : ¬ ((⟨(encBits (readBits l)).toArray⟩ : ByteArray) = ⟨l.toArray⟩) := fun h => he (by injection h with h; have := congrArg Array.toList h; simpa using this)
        have hne2 := bit_ne hne
        have hne3 : (!(⟨(encBits (readBits l)).toArray⟩ : ByteArray).toList == (⟨l.toArray⟩ : ByteArray).toList) = true := by rw [hne2]; rfl
        have CV : Hid (∀ A3 m3 c3 W, Bytes8 W A3 m3 c3 (encBits (readBits l)) → (convert 24 9 (.slice A3 m3 c3)).run Try.prog W = .ok (.string ⟨(encBits (readBits l)).toArray⟩) W) := fun A3 m3 c3 W hB => run_str hB
        have CV2 : Hid (∀ W, Below w.heap.size w W → (convert 24 9 (.slice (some ⟨b, off, none⟩) 244 c)).run Try.prog W = .ok (.string ⟨l.toArray⟩) W) := fun W hW => run_str (HB.out.below hW)
        clear he hne
        generalize encBits (readBits l) = bb at *
        generalize (⟨bb.toArray⟩ : ByteArray) = z1 at *
        generalize (⟨l.toArray⟩ : ByteArray) = z2 at *
        go_wp2_with (go_at_call 8; (with_reducible refine (P.out).mono ?_); rintro e w3 ⟨A3, m3, c3, rfl, hB3, hb3⟩; have cv1 := CV.out _ _ _ _ hB3; have cv2 := CV2.out _ (hbel.out.trans (hb3.mono hs)); clear hB3)
        go_ret2
        exact GB.out _ hb3

theorem refRead_any9 (A : Option Addr) (n c : Nat) (l : List UInt8) (w : World) (h : Bytes8 w A n c l) :
    Calls Try.prog 12 #[.slice A n c] w (RdP9 l w) := by
  by_cases hb : n = 244 ∧ numB l ≤ 960
  · obtain ⟨rfl, h9⟩ := hb
    exact refRead_good9 A c l w h h9
  · exact refRead_bad9 A n c l w h hb

end Go.Proofs.Ytdejggdnpnofeaa
