/-
  The reference's Of.
-/
import Derived.Test.YtadoclbalcecpaaImgG
import Derived.Deep.RegionLaw
namespace Go.Proofs.Ytadoclbalcecpaa
open Go.RowKit
set_option linter.unusedVariables false
set_option linter.unusedSimpArgs false

/-- the first q blocks -/
def blks (l : List UInt8) (q : Nat) : List (List UInt8) := (List.range q).map (blk l)
theorem blks_length (l : List UInt8) (q : Nat) : (blks l q).length = q := by simp [blks]
theorem blks_succ (l : List UInt8) (q : Nat) : blks l (q + 1) = blks l q ++ [blk l q] := by simp [blks, List.range_succ]

/-- a slice value's length -/
def lenS : Value → Nat | .slice _ m _ => m | _ => 0

theorem cut_on {w : World} {b off m d j : Nat} {l : List UInt8} (h : Bytes8 w (some ⟨b, off, none⟩) m d (l.drop (256 * j))) (hm : 256 ≤ m) : Bytes8 w (some ⟨b, off + 256, none⟩) (m - 256) (d - 256) (l.drop (256 * (j + 1))) := by
  have h1 := h.len
  have h2 := h.cap
  have h3 := h.most
  have h4 := h.row.drop 256
  rw [u8s_drop, List.drop_drop] at h4
  refine ⟨?_, by omega, by omega, by simpa [Addr.add_lit, Nat.mul_add] using h4⟩
  rw [List.length_drop] at h1 ⊢
  omega

theorem cut_end {w : World} {b off j : Nat} {l : List UInt8} (h : Bytes8 w (some ⟨b, off, none⟩) 256 256 (l.drop (256 * j))) : Bytes8 w (some ⟨b, off, none⟩) 0 0 (l.drop (256 * (j + 1))) := by
  have h1 := h.len
  rw [List.length_drop] at h1
  rw [List.drop_of_length_le (by omega)]
  exact ⟨rfl, Nat.le_refl _, by omega, Row.nil _ _⟩

set_option maxRecDepth 100000 in
set_option maxHeartbeats 4000000 in
theorem refOf_any (A : Option Addr) (n c : Nat) (l : List UInt8) (w : World) (h : Bytes8 w A n c l) (hn : n ≤ 6000) :
    Calls Try.prog 11 #[.slice A n c] w fun e w' => ∃ v, e = .returned (.pointer (some ⟨w.heap.size, 0, none⟩)) ∧ RImg w' w.heap.size w.heap.size v (blks l (n / 256)) ∧ Below w.heap.size w w' := by
  have kb := build_ref
  have h0 := RImg.new w
  have hb0 : Below w.heap.size w (w.alloc (.cells #[.slice none 0 0] 42)) := (Below.refl _ _).alloc (Nat.le_refl _) _
  have HB := Lib.hid h
  clear h
  go_enter Try.func11, Try.ntmps11
  go_wp2
  go_loopw [0] (fun s wr => ∃ (j m d : Nat) (D : Option Addr), m + 256 * j = n ∧ s = .slice D m d ∧ Below w.heap.size w wr ∧ Hid (Bytes8 w D m d (l.drop (256 * j))) ∧ Hid (∃ v, RImg wr w.heap.size w.heap.size v (blks l j))) (fun s _ => lenS s)
  case atStart => exact ⟨0, n, c, A, by omega, rfl, hb0, HB, _, h0⟩
  case round =>
    obtain ⟨j, m, d, D, hm, rfl, hbel, HD, hR⟩ := hrel
    obtain ⟨v, hR⟩ := hR.out
    obtain ⟨A1, c1, hv1, hc2, hc3, hcell, hrow⟩ := hR.form
    rw [blks_length] at hv1 hc2 hcell
    have hm2 : m ≤ 6000 := by omega
    have hjj : j < 14400 := by omega
    have hd1 := HD.out.cap
    have hd2 := HD.out.most
    by_cases hlt : 256 ≤ m
    · obtain ⟨b, off, rfl, hb, hlit⟩ := HD.out.row.lit (by rw [u8s_length, HD.out.len]; omega)
      have HR := Lib.hid hR
      have hown : Hid (wr.ownsRow (w.heap.size + 1) 9 1 (.slice A1 j c1) j (txts (blks l j))) := by have := hR.own; rw [blks_length, hv1] at this; exact this
      have hsz := hR.plt
      have hcv : ∀ W, Below wr.heap.size wr W → (convert 22 9 (.slice (some ⟨b, off, none⟩) 256 d)).run Try.prog W = .ok (.string ⟨(blk l j).toArray⟩) W := fun W hW => by
        have h1 := (HD.out.below hbel).below hW
        refine run_text ⟨?_, by omega, hd2, ?_⟩
        · have := h1.len
          simp only [List.length_drop] at this
          simp only [blk, List.length_take, List.length_drop]; omega
        · have := h1.row.take 256
          rw [u8s_take, Nat.mul_comm] at this
          exact this
      have hcv0 := hcv wr (Below.refl _ _)
      have hcv1 := hcv wr.drew ((Below.refl _ _).drew)
      have HO : Hid (∀ W, Below wr.heap.size wr W → Hid (W.ownsRow (w.heap.size + 1) 9 1 (.slice A1 j c1) j (txts (blks l j)))) := fun W hW => own_below hown hW
      have hdI : (256 : Int) ≤ (d : Int) := by omega
      obtain ⟨t, ht⟩ : ∃ t, t = blk l j := ⟨_, rfl⟩
      rw [← ht] at hcv0 hcv1
      have HT := Lib.hid ht
      clear ht
      clear hR hrow hlit hv1 hcv
      go_wp2
      go_region_law (first
        | (refine step_append_row _ rfl (.tmp 21) (.tmp 25) 40 rfl (w.heap.size + 1) 9 (.string ByteArray.empty) 16 Try.underlying40 info_string rfl (.slice A1 j c1) j (txts (blks l j)) rfl (HO.out _ (((Below.refl _ _).alloc (Nat.le_refl _) _).drew)) (by show _ ≤ (wr.heap.push _).size; rw [Array.size_push]; omega) (some ⟨wr.heap.size, 0, none⟩) [.string ⟨t.toArray⟩] 1 1 rfl rfl (Row.of_block (t := 9) (fr := (0, 0)) (heap_alloc_new wr _)) (txts_one [t]) (by omega) (by omega) ?_
           intro v2 w2 hown2 hs2 hb2
           have hb3 : Below (w.heap.size + 1) wr w2 := (((Below.refl (w.heap.size + 1) wr).alloc (by omega) _).drew).trans hb2
           have hp2 : Hid (w2.heap[w.heap.size]? = _) := (hb3.block w.heap.size (by omega)).trans HR.out.hp
           have hc2 : w2.cell? ⟨w.heap.size, 0, none⟩ = some (.slice A1 j c1) := (hb3.cell (p := ⟨w.heap.size, 0, none⟩) (by simp)).trans hcell
           have hf2 : w2.frozen? ⟨w.heap.size, 0, none⟩ = false := frozen_of_row w2 w.heap.size 0 _ _ hp2.out
           obtain ⟨A2, c2, hv2, h62, h63⟩ := ownsRow_form hown2.out
           rw [hv2]))
      all_goals
        have hx := hown2.out
        rw [hv2] at hx
        have hx2 : w2.ownsRow (w.heap.size + 1) 9 1 (.slice A2 (j + 1) c2) (blks l (j + 1)).length (txts (blks l (j + 1))) := by
          rw [blks_length, blks_succ, txts_append, ← HT.out]
          exact hx
        have HX : Hid (RImg (w2.setCell ⟨w.heap.size, 0, none⟩ (.slice A2 (j + 1) c2)) w.heap.size w.heap.size (.slice A2 (j + 1) c2) (blks l (j + 1))) := RImg.put (Nat.le_refl _) hp2.out hx2
        have hb9 : Below w.heap.size w (w2.setCell ⟨w.heap.size, 0, none⟩ (.slice A2 (j + 1) c2)) := (hbel.trans (hb3.mono (by omega))).setCell (by simp) _
        clear hx hx2 hown2 hb2 hb3 hcv0 hcv1
        by_cases hd : d = 256
        · have hm0 : m = 256 := by omega
          subst hd hm0
          go_wp2
          go_roundw
          case rel => exact ⟨j + 1, 0, 0, some ⟨b, off, none⟩, by omega, rfl, hb9, cut_end HD.out, _, HX⟩
          case measure => simp [lenS]
        · go_wp2
          go_roundw
          case rel => exact ⟨j + 1, m - 256, d - 256, some ⟨b, off + 256, none⟩, by omega, rfl, hb9, cut_on HD.out hlt, _, HX⟩
          case measure => simp [lenS]; omega
    · have hlt2 : ¬ (256 : Int) ≤ (m : Int) := by omega
      have hjq : j = n / 256 := by omega
      have HJ := Lib.hid hjq
      clear hjq hlt
      go_wp2
      go_ret
      rw [← HJ.out]
      exact ⟨rfl, ⟨_, hR⟩, hbel⟩

end Go.Proofs.Ytadoclbalcecpaa
