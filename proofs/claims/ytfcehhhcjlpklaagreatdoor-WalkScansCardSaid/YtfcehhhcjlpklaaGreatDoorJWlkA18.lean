/-
  Joined: ImgE, ImgF, ImgG, ImgH, ImgI, ImgT, ImgJ.
-/
import Derived.Test.YtfcehhhcjlpklaaGreatDoorJWlkA08
import Derived.Test.YtfcehhhcjlpklaaGreatDoorJWlkA09
import Derived.Deep.AppendLies
import Derived.Lib.AppendStr
import Derived.Laws.IdiomStrings
import Derived.Deep.RegionLaw
/-
  Layer 3's laws: few writes.
-/
namespace Go.Proofs.YtfcehhhcjlpklaaGreatDoor
open Go.RowKit
set_option linter.unusedVariables false
set_option linter.unusedSimpArgs false

end Go.Proofs.YtfcehhhcjlpklaaGreatDoor

/-
  The reference's image in memory: a list of strings behind a pointer; its New.
-/
namespace Go.Proofs.YtfcehhhcjlpklaaGreatDoor
open Go.RowKit
set_option linter.unusedVariables false
set_option linter.unusedSimpArgs false

/-- bytes as a string -/
def txt (l : List UInt8) : Value := .string ⟨l.toArray⟩
def txts (L : List (List UInt8)) : List Value := L.map txt
theorem txts_length (L : List (List UInt8)) : (txts L).length = L.length := by simp [txts]
theorem txts_append (L M : List (List UInt8)) : txts (L ++ M) = txts L ++ txts M := by simp [txts]
theorem txts_one (L : List (List UInt8)) : ∀ u ∈ txts L, u.oneCell' = true := by
  intro u hu
  obtain ⟨_, _, rfl⟩ := List.mem_map.1 hu
  rfl
theorem txts_at (L : List (List UInt8)) (k : Nat) (h : k < L.length) : (txts L)[k]? = some (txt L[k]) := by simp [txts, h]

/-- the reference's image at block p -/
structure RImg (w : World) (B p : Nat) (v : Value) (L : List (List UInt8)) : Prop where
  bp : B ≤ p
  hp : w.heap[p]? = some (.cells #[v] 83 (0, 0))
  own : w.ownsRow (p + 1) 9 1 v L.length (txts L)

theorem RImg.plt {w : World} {B p : Nat} {v : Value} {L : List (List UInt8)} (h : RImg w B p v L) : p < w.heap.size := block_lt h.hp
theorem own_later {w w' : World} {base : Nat} {e : TypeId} {size n : Nat} {v : Value} {xs : List Value} (h : w.ownsRow base e size v n xs) (hb : Below w.heap.size w w') : w'.ownsRow base e size v n xs := own_below h hb
theorem RImg.later {w w' : World} {B p : Nat} {v : Value} {L : List (List UInt8)} (h : RImg w B p v L) (hb : Below w.heap.size w w') : RImg w' B p v L :=
  ⟨h.bp, (hb.block p h.plt).trans h.hp, own_later h.own hb⟩
theorem RImg.kept {w w' : World} {B p g : Nat} {v : Value} {L : List (List UInt8)} (h : RImg w B p v L) (hk : Kept g w w') (hg : g < p) : RImg w' B p v L := by
  refine ⟨h.bp, (hk.block p (by omega)).trans h.hp, h.own.1, ?_⟩
  rcases h.own.2 with hn | ⟨g2, cap, cur, hv, hg2, hh, rest⟩
  · exact .inl hn
  · exact .inr ⟨g2, cap, cur, hv, hg2, (hk.block g2 (by omega)).trans hh, rest⟩
theorem RImg.form {w : World} {B p : Nat} {v : Value} {L : List (List UInt8)} (h : RImg w B p v L) : ∃ A c, v = .slice A L.length c ∧ L.length ≤ c ∧ c ≤ 9223372036854775807 ∧ w.cell? ⟨p, 0, none⟩ = some (.slice A L.length c) ∧ Row w A (txts L) := by
  obtain ⟨A, c, rfl, h1, h2⟩ := ownsRow_form h.own
  refine ⟨A, c, rfl, h1, by simpa [maxLen] using h2, ?_, Row.of_own h.own⟩
  rw [cell_of_row w p 0 _ _ _ h.hp]
  rfl
theorem RImg.cell {w : World} {B p : Nat} {v : Value} {L : List (List UInt8)} (h : RImg w B p v L) : w.cell? ⟨p, 0, none⟩ = some v := by
  rw [cell_of_row w p 0 _ _ _ h.hp]
  rfl
theorem RImg.free {w : World} {B p : Nat} {v : Value} {L : List (List UInt8)} (h : RImg w B p v L) : w.frozen? ⟨p, 0, none⟩ = false := frozen_of_row w p 0 _ _ h.hp
/-- another list of strings is laid in -/
theorem RImg.put {w : World} {B p : Nat} {v v' : Value} {L' : List (List UInt8)} (hB : B ≤ p) (hp : w.heap[p]? = some (.cells #[v] 83 (0, 0))) (ho : w.ownsRow (p + 1) 9 1 v' L'.length (txts L')) :
    RImg (w.setCell ⟨p, 0, none⟩ v') B p v' L' := by
  refine ⟨hB, ?_, ownsRow_setCell_below ho (by simp) _⟩
  rw [heap_setCell_same w p 0 _ _ v' hp]
  rfl

theorem info_string : (Tryz.prog.info? 9).map (fun i => (i.zero, i.size, i.bytes)) = some (some (.string ByteArray.empty), 1, 16) := by kernel_rfl
theorem build_ref (w : World) : (Instr.build 83 #[]).run Tryz.prog w = .ok (.agg #[.slice none 0 0]) w := run_build w _ _ _ (by kernel_rfl)

theorem RImg.new (w : World) : RImg (w.alloc (.cells #[.slice none 0 0] 83)) w.heap.size w.heap.size (.slice none 0 0) [] :=
  ⟨Nat.le_refl _, heap_alloc_new w _, World.ownsRow_nil _ _ _ _⟩

end Go.Proofs.YtfcehhhcjlpklaaGreatDoor

/-
  The reference's Bytes, Read.
-/
namespace Go.Proofs.YtfcehhhcjlpklaaGreatDoor
open Go.RowKit
set_option linter.unusedVariables false
set_option linter.unusedSimpArgs false

end Go.Proofs.YtfcehhhcjlpklaaGreatDoor

/-
  The reference's Of.
-/
namespace Go.Proofs.YtfcehhhcjlpklaaGreatDoor
open Go.RowKit
set_option linter.unusedVariables false
set_option linter.unusedSimpArgs false

/-- the first q blocks -/
def blks (l : List UInt8) (q : Nat) : List (List UInt8) := (List.range q).map (blk l)
theorem blks_length (l : List UInt8) (q : Nat) : (blks l q).length = q := by simp [blks]
theorem blks_succ (l : List UInt8) (q : Nat) : blks l (q + 1) = blks l q ++ [blk l q] := by simp [blks, List.range_succ]

/-- a slice value's length -/
def lenS : Value → Nat | .slice _ m _ => m | _ => 0

theorem cut_on {w : World} {b off m d j : Nat} {l : List UInt8} (h : Bytes8 w (some ⟨b, off, none⟩) m d (l.drop (256 * j))) (hm : 256 ≤ m) : Bytes8 w (some ⟨b, off + 256, none⟩) (m - 256) (d - 256) (l.drop (256 * (j + 1))) := by
  have h1 := h.len
  have h2 := h.cap
  have h3 := h.most
  have h4 := h.row.drop 256
  rw [u8s_drop, List.drop_drop] at h4
  refine ⟨?_, by omega, by omega, by simpa [Addr.add_lit, Nat.mul_add] using h4⟩
  rw [List.length_drop] at h1 ⊢
  omega

theorem cut_end {w : World} {b off j : Nat} {l : List UInt8} (h : Bytes8 w (some ⟨b, off, none⟩) 256 256 (l.drop (256 * j))) : Bytes8 w (some ⟨b, off, none⟩) 0 0 (l.drop (256 * (j + 1))) := by
  have h1 := h.len
  rw [List.length_drop] at h1
  rw [List.drop_of_length_le (by omega)]
  exact ⟨rfl, Nat.le_refl _, by omega, Row.nil _ _⟩

set_option maxRecDepth 100000 in
set_option maxHeartbeats 4000000 in
theorem refOf_any (A : Option Addr) (n c : Nat) (l : List UInt8) (w : World) (h : Bytes8 w A n c l) (hn : n ≤ 12000) :
    Calls Tryz.prog 10 #[.slice A n c] w fun e w' => ∃ v, e = .returned (.pointer (some ⟨w.heap.size, 0, none⟩)) ∧ RImg w' w.heap.size w.heap.size v (blks l (n / 256)) ∧ Below w.heap.size w w' := by
  have kb := build_ref
  have h0 := RImg.new w
  have hb0 : Below w.heap.size w (w.alloc (.cells #[.slice none 0 0] 83)) := (Below.refl _ _).alloc (Nat.le_refl _) _
  have HB := Lib.hid h
  clear h
  go_enter Tryz.func10, Tryz.ntmps10
  go_wp2
  go_loopw [0] (fun s wr => ∃ (j m d : Nat) (D : Option Addr), m + 256 * j = n ∧ s = .slice D m d ∧ Below w.heap.size w wr ∧ Hid (Bytes8 w D m d (l.drop (256 * j))) ∧ Hid (∃ v, RImg wr w.heap.size w.heap.size v (blks l j))) (fun s _ => lenS s)
  case atStart => exact ⟨0, n, c, A, by omega, rfl, hb0, HB, _, h0⟩
  case round =>
    obtain ⟨j, m, d, D, hm, rfl, hbel, HD, hR⟩ := hrel
    obtain ⟨v, hR⟩ := hR.out
    obtain ⟨A1, c1, hv1, hc2, hc3, hcell, hrow⟩ := hR.form
    rw [blks_length] at hv1 hc2 hcell
    have hm2 : m ≤ 12000 := by omega
    have hjj : j < 14400 := by omega
    have hd1 := HD.out.cap
    have hd2 := HD.out.most
    by_cases hlt : 256 ≤ m
    · obtain ⟨b, off, rfl, hb, hlit⟩ := HD.out.row.lit (by rw [u8s_length, HD.out.len]; omega)
      have HR := Lib.hid hR
      have hown : Hid (wr.ownsRow (w.heap.size + 1) 9 1 (.slice A1 j c1) j (txts (blks l j))) := by have := hR.own; rw [blks_length, hv1] at this; exact this
      have hsz := hR.plt
      have hcv : ∀ W, Below wr.heap.size wr W → (convert 22 9 (.slice (some ⟨b, off, none⟩) 256 d)).run Tryz.prog W = .ok (.string ⟨(blk l j).toArray⟩) W := fun W hW => by
        have h1 := (HD.out.below hbel).below hW
        refine run_str ⟨?_, by omega, hd2, ?_⟩
        · have := h1.len
          simp only [List.length_drop] at this
          simp only [blk, List.length_take, List.length_drop]; omega
        · have := h1.row.take 256
          rw [u8s_take, Nat.mul_comm] at this
          exact this
      have hcv0 := hcv wr (Below.refl _ _)
      have hcv1 := hcv wr.drew ((Below.refl _ _).drew)
      have HO : Hid (∀ W, Below wr.heap.size wr W → Hid (W.ownsRow (w.heap.size + 1) 9 1 (.slice A1 j c1) j (txts (blks l j)))) := fun W hW => own_below hown hW
      have hdI : (256 : Int) ≤ (d : Int) := by omega
      obtain ⟨t, ht⟩ : ∃ t, t = blk l j := ⟨_, rfl⟩
      rw [← ht] at hcv0 hcv1
      have HT := Lib.hid ht
      clear ht
      clear hR hrow hlit hv1 hcv
      go_wp2
      go_region_law (first
        | (refine step_append_row _ rfl (.tmp 21) (.tmp 25) 53 rfl (w.heap.size + 1) 9 (.string ByteArray.empty) 16 Tryz.underlying53 info_string rfl (.slice A1 j c1) j (txts (blks l j)) rfl (HO.out _ (((Below.refl _ _).alloc (Nat.le_refl _) _).drew)) (by show _ ≤ (wr.heap.push _).size; rw [Array.size_push]; omega) (some ⟨wr.heap.size, 0, none⟩) [.string ⟨t.toArray⟩] 1 1 rfl rfl (Row.of_block (t := 9) (fr := (0, 0)) (heap_alloc_new wr _)) (txts_one [t]) (by omega) (by omega) ?_
           intro v2 w2 hown2 hs2 hb2
           have hb3 : Below (w.heap.size + 1) wr w2 := (((Below.refl (w.heap.size + 1) wr).alloc (by omega) _).drew).trans hb2
           have hp2 : Hid (w2.heap[w.heap.size]? = _) := (hb3.block w.heap.size (by omega)).trans HR.out.hp
           have hc2 : w2.cell? ⟨w.heap.size, 0, none⟩ = some (.slice A1 j c1) := (hb3.cell (p := ⟨w.heap.size, 0, none⟩) (by simp)).trans hcell
           have hf2 : w2.frozen? ⟨w.heap.size, 0, none⟩ = false := frozen_of_row w2 w.heap.size 0 _ _ hp2.out
           obtain ⟨A2, c2, hv2, h62, h63⟩ := ownsRow_form hown2.out
           rw [hv2]))
      all_goals
        have hx := hown2.out
        rw [hv2] at hx
        have hx2 : w2.ownsRow (w.heap.size + 1) 9 1 (.slice A2 (j + 1) c2) (blks l (j + 1)).length (txts (blks l (j + 1))) := by
          rw [blks_length, blks_succ, txts_append, ← HT.out]
          exact hx
        have HX : Hid (RImg (w2.setCell ⟨w.heap.size, 0, none⟩ (.slice A2 (j + 1) c2)) w.heap.size w.heap.size (.slice A2 (j + 1) c2) (blks l (j + 1))) := RImg.put (Nat.le_refl _) hp2.out hx2
        have hb9 : Below w.heap.size w (w2.setCell ⟨w.heap.size, 0, none⟩ (.slice A2 (j + 1) c2)) := (hbel.trans (hb3.mono (by omega))).setCell (by simp) _
        clear hx hx2 hown2 hb2 hb3 hcv0 hcv1
        by_cases hd : d = 256
        · have hm0 : m = 256 := by omega
          subst hd hm0
          go_wp2
          go_roundw
          case rel => exact ⟨j + 1, 0, 0, some ⟨b, off, none⟩, by omega, rfl, hb9, cut_end HD.out, _, HX⟩
          case measure => simp [lenS]
        · go_wp2
          go_roundw
          case rel => exact ⟨j + 1, m - 256, d - 256, some ⟨b, off + 256, none⟩, by omega, rfl, hb9, cut_on HD.out hlt, _, HX⟩
          case measure => simp [lenS]; omega
    · have hlt2 : ¬ (256 : Int) ≤ (m : Int) := by omega
      have hjq : j = n / 256 := by omega
      have HJ := Lib.hid hjq
      clear hjq hlt
      go_wp2
      go_ret
      rw [← HJ.out]
      exact ⟨rfl, ⟨_, hR⟩, hbel⟩

end Go.Proofs.YtfcehhhcjlpklaaGreatDoor

/-
  The reference's Read, Write.
-/
namespace Go.Proofs.YtfcehhhcjlpklaaGreatDoor
open Go.RowKit
set_option linter.unusedVariables false
set_option linter.unusedSimpArgs false

/-- bytes of a string, in a new row -/
theorem conv_back (l : List UInt8) (w : World) (h : l.length ≤ 9223372036854775807) : ∃ c w', (convert 9 22 (.string ⟨l.toArray⟩)).run Tryz.prog w = .ok (.slice (some ⟨w.heap.size, 0, none⟩) l.length c) w' ∧ Bytes8 w' (some ⟨w.heap.size, 0, none⟩) l.length c l ∧ Below w.heap.size w w' := by
  have hs : (ByteArray.mk l.toArray).size = l.length := by simp [ByteArray.size]
  have h1 := grownCap_ge w l.length 0 5
  have h2 := grownCap_le_maxLen w l.length 0 5 (by simpa [maxLen] using h)
  have := run_bytes_of_string (P := Tryz.prog) w 9 22 5 ⟨l.toArray⟩ Tryz.underlying9 Tryz.underlying22 Tryz.underlying5
  rw [hs] at this
  refine ⟨_, _, this, ⟨rfl, h1, by simpa [maxLen] using h2, ?_⟩, ((Below.refl _ _).drew).alloc (by simp) _⟩
  intro k v hk
  have hk2 : k < l.length := by
    have := (List.getElem?_eq_some_iff.1 hk).1
    rwa [u8s_length] at this
  refine ⟨_, rfl, ?_⟩
  rw [Addr.add_lit, Nat.zero_add, cell_of_row _ w.heap.size k _ _ _ (heap_alloc_new w.drew _)]
  rw [u8s_at l k hk2] at hk
  rw [← hk]
  simp [bytesRow, Array.getElem?_append, hk2]

set_option maxRecDepth 100000 in
set_option maxHeartbeats 800000 in
theorem refIRead_bad {B p : Nat} {v : Value} {L : List (List UInt8)} (k : Int) (w : World) (h : RImg w B p v L) (hk : k < 0 ∨ (L.length : Int) ≤ k) :
    Calls Tryz.prog 102 #[.pointer (some ⟨p, 0, none⟩), .int .i64 k] w fun e w' => e = .returned (.tuple #[.slice none 0 0, .int .i64 3]) ∧ w = w' := by
  obtain ⟨A, c, rfl, hcap, hmost, hcell, hrow⟩ := h.form
  clear h hrow
  generalize L.length = n at *
  by_cases h0 : k < 0
  · clear hk
    go_enter Tryz.func102, Tryz.ntmps102
    go_wp2
    go_ret2
    exact ⟨rfl, rfl⟩
  · have h1 : (n : Int) ≤ k := by omega
    clear hk
    go_enter Tryz.func102, Tryz.ntmps102
    go_wp2
    go_ret2
    exact ⟨rfl, rfl⟩

set_option maxRecDepth 100000 in
set_option maxHeartbeats 800000 in
theorem refIRead_good {B p : Nat} {v : Value} {L : List (List UInt8)} (k : Nat) (w : World) (h : RImg w B p v L) (hk : k < L.length) (hl : L[k].length ≤ 9223372036854775807) :
    Calls Tryz.prog 102 #[.pointer (some ⟨p, 0, none⟩), .int .i64 (k : Int)] w fun e w' => ∃ A c, e = .returned (.tuple #[.slice A L[k].length c, .int .i64 0]) ∧ Bytes8 w' A L[k].length c L[k] ∧ Below w.heap.size w w' := by
  obtain ⟨A, c, rfl, hcap, hmost, hcell, hrow⟩ := h.form
  obtain ⟨b, off, rfl, hb, hcs⟩ := hrow.lit (by rw [txts_length]; omega)
  have hc1 : w.cell? ⟨b, off + k, none⟩ = some (.string ⟨L[k].toArray⟩) := hcs k _ (txts_at L k hk)
  obtain ⟨c', w', hrun, hB, hbel⟩ := conv_back L[k] w hl
  have HB := Lib.hid hB
  have HK : k < L.length := hk
  clear h hrow hcs hB hl
  generalize L[k] = t at *
  generalize L.length = n at *
  go_enter Tryz.func102, Tryz.ntmps102
  go_wp2
  go_ret2
  exact ⟨_, c', rfl, HB.out, hbel⟩

theorem RImg.lit {w : World} {B p : Nat} {v : Value} {L : List (List UInt8)} (h : RImg w B p v L) (hp : 0 < L.length) :
    ∃ g cap cur, v = .slice (some ⟨g, 0, none⟩) L.length cap ∧ p + 1 ≤ g ∧ w.heap[g]? = some (.cells cur 9 (0, 0)) ∧ L.length ≤ cap ∧ cap ≤ maxLen ∧ cur.size = cap ∧ cur.toList.take L.length = txts L := by
  rcases h.own.2 with ⟨_, h0⟩ | ⟨g, cap, cur, hv, hg, hh, h1, h2, h3, h4⟩
  · omega
  · exact ⟨g, cap, cur, hv, hg, hh, h1, h2, by simpa using h3, by simpa using h4⟩

theorem RImg.set {w : World} {B p g cap k : Nat} {L : List (List UInt8)} {cur : Array Value} (l : List UInt8) (h : RImg w B p (.slice (some ⟨g, 0, none⟩) L.length cap) L) (hg : p + 1 ≤ g) (hh : w.heap[g]? = some (.cells cur 9 (0, 0)))
    (h1 : L.length ≤ cap) (h2 : cap ≤ maxLen) (h3 : cur.size = cap) (h4 : cur.toList.take L.length = txts L) (hk : k < L.length) : RImg (w.setCell ⟨g, k, none⟩ (.string ⟨l.toArray⟩)) B p (.slice (some ⟨g, 0, none⟩) L.length cap) (L.set k l) := by
  refine ⟨h.bp, ?_, ?_, .inr ⟨g, cap, cur.setIfInBounds k (.string ⟨l.toArray⟩), ?_, hg, heap_setCell_same w g k cur _ _ hh, ?_, h2, ?_, ?_⟩⟩
  · rw [heap_setCell_other w ⟨g, k, none⟩ p _ (by simp; omega)]
    exact h.hp
  · simp [txts_length]
  · rw [List.length_set]
  · rw [List.length_set]; exact h1
  · simpa using h3
  · rw [List.length_set, Nat.mul_one, Array.toList_setIfInBounds, List.take_set, h4]
    simp [txts, txt, List.map_set]

end Go.Proofs.YtfcehhhcjlpklaaGreatDoor

/-
  An image and the reference's image, in one world.
-/
namespace Go.Proofs.YtfcehhhcjlpklaaGreatDoor
open Go.RowKit
set_option linter.unusedVariables false
set_option linter.unusedSimpArgs false

/-- an image and the reference's image, in a later world -/
structure Two (w0 : World) (p g p2 : Nat) (v : Value) (L : List UInt8) (LL : List (List UInt8)) (W : World) : Prop where
  bel : Below w0.heap.size w0 W
  img : Img W w0.heap.size p g L
  ref : RImg W w0.heap.size p2 v LL

theorem Two.later {w0 W W' : World} {p g p2 : Nat} {v : Value} {L : List UInt8} {LL : List (List UInt8)} (h : Two w0 p g p2 v L LL W) (hb : Below W.heap.size W W') : Two w0 p g p2 v L LL W' :=
  ⟨h.bel.trans (hb.mono h.bel.size), h.img.later hb, h.ref.later hb⟩

end Go.Proofs.YtfcehhhcjlpklaaGreatDoor

/-
  An image and the reference's image, written side by side.
-/
namespace Go.Proofs.YtfcehhhcjlpklaaGreatDoor
open Go.RowKit
set_option linter.unusedVariables false
set_option linter.unusedSimpArgs false

end Go.Proofs.YtfcehhhcjlpklaaGreatDoor
