/-
  Joined: ImgE, ImgF, ImgG, ImgH, ImgI, ImgT, ImgJ.
-/
import Derived.Test.YtnjlganofjkpfaaGreatDoorJBldA13
import Derived.Test.YtnjlganofjkpfaaGreatDoorJBldA15
import Derived.Deep.AppendLies
import Derived.Lib.AppendStr
import Derived.Laws.IdiomStrings
import Derived.Deep.RegionLaw
/-
  Layer 3's laws: few writes.
-/
namespace Go.Proofs.YtnjlganofjkpfaaGreatDoor
open Go.RowKit
set_option linter.unusedVariables false
set_option linter.unusedSimpArgs false

end Go.Proofs.YtnjlganofjkpfaaGreatDoor

/-
  The reference's image in memory: a list of strings behind a pointer; its New.
-/
namespace Go.Proofs.YtnjlganofjkpfaaGreatDoor
open Go.RowKit
set_option linter.unusedVariables false
set_option linter.unusedSimpArgs false

/-- bytes as a string -/
def txt (l : List UInt8) : Value := .string ⟨l.toArray⟩
def txts (L : List (List UInt8)) : List Value := L.map txt
theorem txts_length (L : List (List UInt8)) : (txts L).length = L.length := by simp [txts]
theorem txts_append (L M : List (List UInt8)) : txts (L ++ M) = txts L ++ txts M := by simp [txts]
theorem txts_one (L : List (List UInt8)) : ∀ u ∈ txts L, u.oneCell' = true := by
  intro u hu
  obtain ⟨_, _, rfl⟩ := List.mem_map.1 hu
  rfl
theorem txts_at (L : List (List UInt8)) (k : Nat) (h : k < L.length) : (txts L)[k]? = some (txt L[k]) := by simp [txts, h]

/-- the reference's image at block p -/
structure RImg (w : World) (B p : Nat) (v : Value) (L : List (List UInt8)) : Prop where
  bp : B ≤ p
  hp : w.heap[p]? = some (.cells #[v] 63 (0, 0))
  own : w.ownsRow (p + 1) 9 1 v L.length (txts L)

theorem RImg.plt {w : World} {B p : Nat} {v : Value} {L : List (List UInt8)} (h : RImg w B p v L) : p < w.heap.size := block_lt h.hp
theorem own_later {w w' : World} {base : Nat} {e : TypeId} {size n : Nat} {v : Value} {xs : List Value} (h : w.ownsRow base e size v n xs) (hb : Below w.heap.size w w') : w'.ownsRow base e size v n xs := own_below h hb
theorem RImg.later {w w' : World} {B p : Nat} {v : Value} {L : List (List UInt8)} (h : RImg w B p v L) (hb : Below w.heap.size w w') : RImg w' B p v L :=
  ⟨h.bp, (hb.block p h.plt).trans h.hp, own_later h.own hb⟩
theorem RImg.kept {w w' : World} {B p g : Nat} {v : Value} {L : List (List UInt8)} (h : RImg w B p v L) (hk : Kept g w w') (hg : g < p) : RImg w' B p v L := by
  refine ⟨h.bp, (hk.block p (by omega)).trans h.hp, h.own.1, ?_⟩
  rcases h.own.2 with hn | ⟨g2, cap, cur, hv, hg2, hh, rest⟩
  · exact .inl hn
  · exact .inr ⟨g2, cap, cur, hv, hg2, (hk.block g2 (by omega)).trans hh, rest⟩
theorem RImg.form {w : World} {B p : Nat} {v : Value} {L : List (List UInt8)} (h : RImg w B p v L) : ∃ A c, v = .slice A L.length c ∧ L.length ≤ c ∧ c ≤ 9223372036854775807 ∧ w.cell? ⟨p, 0, none⟩ = some (.slice A L.length c) ∧ Row w A (txts L) := by
  obtain ⟨A, c, rfl, h1, h2⟩ := ownsRow_form h.own
  refine ⟨A, c, rfl, h1, by simpa [maxLen] using h2, ?_, Row.of_own h.own⟩
  rw [cell_of_row w p 0 _ _ _ h.hp]
  rfl
theorem RImg.cell {w : World} {B p : Nat} {v : Value} {L : List (List UInt8)} (h : RImg w B p v L) : w.cell? ⟨p, 0, none⟩ = some v := by
  rw [cell_of_row w p 0 _ _ _ h.hp]
  rfl
theorem RImg.free {w : World} {B p : Nat} {v : Value} {L : List (List UInt8)} (h : RImg w B p v L) : w.frozen? ⟨p, 0, none⟩ = false := frozen_of_row w p 0 _ _ h.hp
/-- another list of strings is laid in -/
theorem RImg.put {w : World} {B p : Nat} {v v' : Value} {L' : List (List UInt8)} (hB : B ≤ p) (hp : w.heap[p]? = some (.cells #[v] 63 (0, 0))) (ho : w.ownsRow (p + 1) 9 1 v' L'.length (txts L')) :
    RImg (w.setCell ⟨p, 0, none⟩ v') B p v' L' := by
  refine ⟨hB, ?_, ownsRow_setCell_below ho (by simp) _⟩
  rw [heap_setCell_same w p 0 _ _ v' hp]
  rfl

theorem info_string : (Tryz.prog.info? 9).map (fun i => (i.zero, i.size, i.bytes)) = some (some (.string ByteArray.empty), 1, 16) := by kernel_rfl
theorem build_ref (w : World) : (Instr.build 63 #[]).run Tryz.prog w = .ok (.agg #[.slice none 0 0]) w := run_build w _ _ _ (by kernel_rfl)

theorem RImg.new (w : World) : RImg (w.alloc (.cells #[.slice none 0 0] 63)) w.heap.size w.heap.size (.slice none 0 0) [] :=
  ⟨Nat.le_refl _, heap_alloc_new w _, World.ownsRow_nil _ _ _ _⟩

end Go.Proofs.YtnjlganofjkpfaaGreatDoor

/-
  The reference's Bytes, Read.
-/
namespace Go.Proofs.YtnjlganofjkpfaaGreatDoor
open Go.RowKit
set_option linter.unusedVariables false
set_option linter.unusedSimpArgs false

theorem strCells_txt (l : List UInt8) : Lib.strCells ⟨l.toArray⟩ = u8s l := by simp [Lib.strCells, u8s]

theorem flatten_take_succ (L : List (List UInt8)) (k : Nat) (h : k < L.length) : (L.take (k + 1)).flatten = (L.take k).flatten ++ L[k] := by
  rw [List.take_succ_eq_append_getElem h, List.flatten_append]
  simp
theorem flatten_take_le (L : List (List UInt8)) (k : Nat) : (L.take k).flatten.length ≤ L.flatten.length := by
  conv => rhs; rw [← List.take_append_drop k L, List.flatten_append, List.length_append]
  omega

set_option maxRecDepth 100000 in
set_option maxHeartbeats 1600000 in
theorem refBytes_any {B p : Nat} {v : Value} {L : List (List UInt8)} (w : World) (h : RImg w B p v L) (hm : L.flatten.length ≤ 3686400) :
    Calls Tryz.prog 18 #[.pointer (some ⟨p, 0, none⟩)] w fun e w' => ∃ A c, e = .returned (.slice A L.flatten.length c) ∧ Bytes8 w' A L.flatten.length c L.flatten ∧ Below w.heap.size w w' := by
  obtain ⟨A, c, rfl, hcap, hmost, hcell, hrow⟩ := h.form
  obtain ⟨i0, hi0, hz0, hz1, hz2⟩ := info_parts info_u8
  have hp := h.plt
  have HRw := Lib.hid hrow
  have HM := Lib.hid hm
  have HB : Hid (∀ W, Below w.heap.size w W → W.cell? ⟨p, 0, none⟩ = some (.slice A L.length c)) := fun W hb => (hb.cell (p := ⟨p, 0, none⟩) hp).trans hcell
  obtain ⟨n, hn⟩ : ∃ n, n = L.length := ⟨_, rfl⟩
  have HN := Lib.hid hn
  rw [← hn] at hcap hcell HB
  clear h hrow hm hn
  go_enter Tryz.func18, Tryz.ntmps18
  go_wp2
  go_loopw [3, 4] (fun s i wr => ∃ j : Nat, j ≤ n ∧ i = .int .i64 j ∧ Below w.heap.size w wr ∧ Hid (wr.ownsRow w.heap.size 5 1 s (L.take j).flatten.length (u8s (L.take j).flatten))) (fun _ i _ => n - (intOf i).toNat)
  case atStart => exact ⟨0, by omega, rfl, Below.refl _ _, World.ownsRow_nil _ _ _ _⟩
  case round =>
    obtain ⟨j, hj, rfl, hbel, hown⟩ := hrel
    have hc0 := HB.out _ hbel
    by_cases hlt : j < n
    · have hjl : j < L.length := by have := HN.out; omega
      obtain ⟨b, off, rfl, hb, hcs⟩ := HRw.out.lit (by rw [txts_length]; omega)
      have hc1 : wr.cell? ⟨b, off + j, none⟩ = some (.string ⟨L[j].toArray⟩) := (hbel.cell (p := ⟨b, off + j, none⟩) hb).trans (hcs j _ (txts_at L j hjl))
      have hlen : (L.take (j + 1)).flatten.length ≤ 3686400 := Nat.le_trans (flatten_take_le L (j + 1)) HM.out
      rw [flatten_take_succ L j hjl, List.length_append] at hlen
      have HF := Lib.hid (flatten_take_succ L j hjl)
      have hsz := hbel.size
      have HT := Lib.hid (strCells_txt L[j])
      have hsl : (ByteArray.mk L[j].toArray).size = L[j].length := by simp [ByteArray.size]
      clear hcs
      generalize L[j] = t at *
      go_wp2_with (at_builtin; go_must (refine Lib.wpList_append_own_string wr rfl _ _ 29 9 rfl w.heap.size 5 i0 Tryz.underlying29 Tryz.underlying9 hi0 hz0 hz1 hz2 u3 _ _ rfl hown.out ⟨t.toArray⟩ rfl (by rw [hsl]; simp only [maxLen]; omega) (by rw [hsl]; omega) hsz ?_; intro v2 w2 hown2 hg2 _; have hb2 := (Below.refl w.heap.size wr).grown hg2 hsz (fun k hk => (hown.out.lt k hk).1)))
      go_roundw
      case rel =>
        refine ⟨j + 1, by omega, by go_num, hbel.trans hb2, ?_⟩
        rw [HF.out, List.length_append, u8s_append, ← HT.out, ← hsl]
        exact hown2
      case measure => simp [intOf]; omega
    · obtain rfl : j = n := by omega
      have hx := hown.out
      rw [List.take_of_length_le (by have := HN.out; omega)] at hx
      obtain ⟨A', c', hv, hB⟩ := Bytes8.of_own hx
      rw [hv]
      clear hown hx
      go_wp2
      go_ret
      exact ⟨A', c', rfl, hB, hbel⟩

end Go.Proofs.YtnjlganofjkpfaaGreatDoor

/-
  The reference's Of.
-/
namespace Go.Proofs.YtnjlganofjkpfaaGreatDoor
open Go.RowKit
set_option linter.unusedVariables false
set_option linter.unusedSimpArgs false

/-- the first q blocks -/
def blks (l : List UInt8) (q : Nat) : List (List UInt8) := (List.range q).map (blk l)
theorem blks_length (l : List UInt8) (q : Nat) : (blks l q).length = q := by simp [blks]
theorem blks_succ (l : List UInt8) (q : Nat) : blks l (q + 1) = blks l q ++ [blk l q] := by simp [blks, List.range_succ]

/-- a slice value's length -/
def lenS : Value → Nat | .slice _ m _ => m | _ => 0

theorem cut_on {w : World} {b off m d j : Nat} {l : List UInt8} (h : Bytes8 w (some ⟨b, off, none⟩) m d (l.drop (256 * j))) (hm : 256 ≤ m) : Bytes8 w (some ⟨b, off + 256, none⟩) (m - 256) (d - 256) (l.drop (256 * (j + 1))) := by
  have h1 := h.len
  have h2 := h.cap
  have h3 := h.most
  have h4 := h.row.drop 256
  rw [u8s_drop, List.drop_drop] at h4
  refine ⟨?_, by omega, by omega, by simpa [Addr.add_lit, Nat.mul_add] using h4⟩
  rw [List.length_drop] at h1 ⊢
  omega

theorem cut_end {w : World} {b off j : Nat} {l : List UInt8} (h : Bytes8 w (some ⟨b, off, none⟩) 256 256 (l.drop (256 * j))) : Bytes8 w (some ⟨b, off, none⟩) 0 0 (l.drop (256 * (j + 1))) := by
  have h1 := h.len
  rw [List.length_drop] at h1
  rw [List.drop_of_length_le (by omega)]
  exact ⟨rfl, Nat.le_refl _, by omega, Row.nil _ _⟩

set_option maxRecDepth 100000 in
set_option maxHeartbeats 4000000 in
theorem refOf_anyF (A : Option Addr) (n c : Nat) (l : List UInt8) (w : World) (h : Bytes8 w A n c l) (hn : n ≤ 3600000) :
    Calls Tryz.prog 8 #[.slice A n c] w fun e w' => ∃ v, e = .returned (.pointer (some ⟨w.heap.size, 0, none⟩)) ∧ RImg w' w.heap.size w.heap.size v (blks l (n / 256)) ∧ Below w.heap.size w w' := by
  have kb := build_ref
  have h0 := RImg.new w
  have hb0 : Below w.heap.size w (w.alloc (.cells #[.slice none 0 0] 63)) := (Below.refl _ _).alloc (Nat.le_refl _) _
  have HB := Lib.hid h
  clear h
  go_enter Tryz.func8, Tryz.ntmps8
  go_wp2
  go_loopw [0] (fun s wr => ∃ (j m d : Nat) (D : Option Addr), m + 256 * j = n ∧ s = .slice D m d ∧ Below w.heap.size w wr ∧ Hid (Bytes8 w D m d (l.drop (256 * j))) ∧ Hid (∃ v, RImg wr w.heap.size w.heap.size v (blks l j))) (fun s _ => lenS s)
  case atStart => exact ⟨0, n, c, A, by omega, rfl, hb0, HB, _, h0⟩
  case round =>
    obtain ⟨j, m, d, D, hm, rfl, hbel, HD, hR⟩ := hrel
    obtain ⟨v, hR⟩ := hR.out
    obtain ⟨A1, c1, hv1, hc2, hc3, hcell, hrow⟩ := hR.form
    rw [blks_length] at hv1 hc2 hcell
    have hm2 : m ≤ 3600000 := by omega
    have hjj : j < 14400 := by omega
    have hd1 := HD.out.cap
    have hd2 := HD.out.most
    by_cases hlt : 256 ≤ m
    · obtain ⟨b, off, rfl, hb, hlit⟩ := HD.out.row.lit (by rw [u8s_length, HD.out.len]; omega)
      have HR := Lib.hid hR
      have hown : Hid (wr.ownsRow (w.heap.size + 1) 9 1 (.slice A1 j c1) j (txts (blks l j))) := by have := hR.own; rw [blks_length, hv1] at this; exact this
      have hsz := hR.plt
      have hcv : ∀ W, Below wr.heap.size wr W → (convert 29 9 (.slice (some ⟨b, off, none⟩) 256 d)).run Tryz.prog W = .ok (.string ⟨(blk l j).toArray⟩) W := fun W hW => by
        have h1 := (HD.out.below hbel).below hW
        refine run_str ⟨?_, by omega, hd2, ?_⟩
        · have := h1.len
          simp only [List.length_drop] at this
          simp only [blk, List.length_take, List.length_drop]; omega
        · have := h1.row.take 256
          rw [u8s_take, Nat.mul_comm] at this
          exact this
      have hcv0 := hcv wr (Below.refl _ _)
      have hcv1 := hcv wr.drew ((Below.refl _ _).drew)
      have HO : Hid (∀ W, Below wr.heap.size wr W → Hid (W.ownsRow (w.heap.size + 1) 9 1 (.slice A1 j c1) j (txts (blks l j)))) := fun W hW => own_below hown hW
      have hdI : (256 : Int) ≤ (d : Int) := by omega
      obtain ⟨t, ht⟩ : ∃ t, t = blk l j := ⟨_, rfl⟩
      rw [← ht] at hcv0 hcv1
      have HT := Lib.hid ht
      clear ht
      clear hR hrow hlit hv1 hcv
      go_wp2
      go_region_law (first
        | (refine step_append_row _ rfl (.tmp 21) (.tmp 25) 61 rfl (w.heap.size + 1) 9 (.string ByteArray.empty) 16 Tryz.underlying61 info_string rfl (.slice A1 j c1) j (txts (blks l j)) rfl (HO.out _ (((Below.refl _ _).alloc (Nat.le_refl _) _).drew)) (by show _ ≤ (wr.heap.push _).size; rw [Array.size_push]; omega) (some ⟨wr.heap.size, 0, none⟩) [.string ⟨t.toArray⟩] 1 1 rfl rfl (Row.of_block (t := 9) (fr := (0, 0)) (heap_alloc_new wr _)) (txts_one [t]) (by omega) (by omega) ?_
           intro v2 w2 hown2 hs2 hb2
           have hb3 : Below (w.heap.size + 1) wr w2 := (((Below.refl (w.heap.size + 1) wr).alloc (by omega) _).drew).trans hb2
           have hp2 : Hid (w2.heap[w.heap.size]? = _) := (hb3.block w.heap.size (by omega)).trans HR.out.hp
           have hc2 : w2.cell? ⟨w.heap.size, 0, none⟩ = some (.slice A1 j c1) := (hb3.cell (p := ⟨w.heap.size, 0, none⟩) (by simp)).trans hcell
           have hf2 : w2.frozen? ⟨w.heap.size, 0, none⟩ = false := frozen_of_row w2 w.heap.size 0 _ _ hp2.out
           obtain ⟨A2, c2, hv2, h62, h63⟩ := ownsRow_form hown2.out
           rw [hv2]))
      all_goals
        have hx := hown2.out
        rw [hv2] at hx
        have hx2 : w2.ownsRow (w.heap.size + 1) 9 1 (.slice A2 (j + 1) c2) (blks l (j + 1)).length (txts (blks l (j + 1))) := by
          rw [blks_length, blks_succ, txts_append, ← HT.out]
          exact hx
        have HX : Hid (RImg (w2.setCell ⟨w.heap.size, 0, none⟩ (.slice A2 (j + 1) c2)) w.heap.size w.heap.size (.slice A2 (j + 1) c2) (blks l (j + 1))) := RImg.put (Nat.le_refl _) hp2.out hx2
        have hb9 : Below w.heap.size w (w2.setCell ⟨w.heap.size, 0, none⟩ (.slice A2 (j + 1) c2)) := (hbel.trans (hb3.mono (by omega))).setCell (by simp) _
        clear hx hx2 hown2 hb2 hb3 hcv0 hcv1
        by_cases hd : d = 256
        · have hm0 : m = 256 := by omega
          subst hd hm0
          go_wp2
          go_roundw
          case rel => exact ⟨j + 1, 0, 0, some ⟨b, off, none⟩, by omega, rfl, hb9, cut_end HD.out, _, HX⟩
          case measure => simp [lenS]
        · go_wp2
          go_roundw
          case rel => exact ⟨j + 1, m - 256, d - 256, some ⟨b, off + 256, none⟩, by omega, rfl, hb9, cut_on HD.out hlt, _, HX⟩
          case measure => simp [lenS]; omega
    · have hlt2 : ¬ (256 : Int) ≤ (m : Int) := by omega
      have hjq : j = n / 256 := by omega
      have HJ := Lib.hid hjq
      clear hjq hlt
      go_wp2
      go_ret
      rw [← HJ.out]
      exact ⟨rfl, ⟨_, hR⟩, hbel⟩

end Go.Proofs.YtnjlganofjkpfaaGreatDoor

/-
  The reference's Read, Write.
-/
namespace Go.Proofs.YtnjlganofjkpfaaGreatDoor
open Go.RowKit
set_option linter.unusedVariables false
set_option linter.unusedSimpArgs false

set_option maxRecDepth 100000 in
set_option maxHeartbeats 800000 in
theorem refWrite_bad {B p : Nat} {v : Value} {L : List (List UInt8)} (k : Int) (A2 : Option Addr) (m c2 : Nat) (w : World) (h : RImg w B p v L) (hk : k < 0 ∨ (L.length : Int) ≤ k) :
    Calls Tryz.prog 84 #[.pointer (some ⟨p, 0, none⟩), .int .i64 k, .slice A2 m c2] w fun e w' => e = .returned (.int .i64 3) ∧ w = w' := by
  obtain ⟨A, c, rfl, hcap, hmost, hcell, hrow⟩ := h.form
  clear h hrow
  generalize L.length = n at *
  by_cases h0 : k < 0
  · clear hk
    go_enter Tryz.func84, Tryz.ntmps84
    go_wp2
    go_ret
    exact ⟨rfl, rfl⟩
  · have h1 : (n : Int) ≤ k := by omega
    clear hk
    go_enter Tryz.func84, Tryz.ntmps84
    go_wp2
    go_ret
    exact ⟨rfl, rfl⟩

theorem RImg.lit {w : World} {B p : Nat} {v : Value} {L : List (List UInt8)} (h : RImg w B p v L) (hp : 0 < L.length) :
    ∃ g cap cur, v = .slice (some ⟨g, 0, none⟩) L.length cap ∧ p + 1 ≤ g ∧ w.heap[g]? = some (.cells cur 9 (0, 0)) ∧ L.length ≤ cap ∧ cap ≤ maxLen ∧ cur.size = cap ∧ cur.toList.take L.length = txts L := by
  rcases h.own.2 with ⟨_, h0⟩ | ⟨g, cap, cur, hv, hg, hh, h1, h2, h3, h4⟩
  · omega
  · exact ⟨g, cap, cur, hv, hg, hh, h1, h2, by simpa using h3, by simpa using h4⟩

theorem RImg.set {w : World} {B p g cap k : Nat} {L : List (List UInt8)} {cur : Array Value} (l : List UInt8) (h : RImg w B p (.slice (some ⟨g, 0, none⟩) L.length cap) L) (hg : p + 1 ≤ g) (hh : w.heap[g]? = some (.cells cur 9 (0, 0)))
    (h1 : L.length ≤ cap) (h2 : cap ≤ maxLen) (h3 : cur.size = cap) (h4 : cur.toList.take L.length = txts L) (hk : k < L.length) : RImg (w.setCell ⟨g, k, none⟩ (.string ⟨l.toArray⟩)) B p (.slice (some ⟨g, 0, none⟩) L.length cap) (L.set k l) := by
  refine ⟨h.bp, ?_, ?_, .inr ⟨g, cap, cur.setIfInBounds k (.string ⟨l.toArray⟩), ?_, hg, heap_setCell_same w g k cur _ _ hh, ?_, h2, ?_, ?_⟩⟩
  · rw [heap_setCell_other w ⟨g, k, none⟩ p _ (by simp; omega)]
    exact h.hp
  · simp [txts_length]
  · rw [List.length_set]
  · rw [List.length_set]; exact h1
  · simpa using h3
  · rw [List.length_set, Nat.mul_one, Array.toList_setIfInBounds, List.take_set, h4]
    simp [txts, txt, List.map_set]

end Go.Proofs.YtnjlganofjkpfaaGreatDoor

/-
  An image and the reference's image, in one world.
-/
namespace Go.Proofs.YtnjlganofjkpfaaGreatDoor
open Go.RowKit
set_option linter.unusedVariables false
set_option linter.unusedSimpArgs false

/-- an image and the reference's image, in a later world -/
structure Two (w0 : World) (p g p2 : Nat) (v : Value) (L : List UInt8) (LL : List (List UInt8)) (W : World) : Prop where
  bel : Below w0.heap.size w0 W
  img : Img W w0.heap.size p g L
  ref : RImg W w0.heap.size p2 v LL

theorem Two.later {w0 W W' : World} {p g p2 : Nat} {v : Value} {L : List UInt8} {LL : List (List UInt8)} (h : Two w0 p g p2 v L LL W) (hb : Below W.heap.size W W') : Two w0 p g p2 v L LL W' :=
  ⟨h.bel.trans (hb.mono h.bel.size), h.img.later hb, h.ref.later hb⟩

theorem Two.bytes {w0 W : World} {p g p2 : Nat} {v : Value} {L : List UInt8} {LL : List (List UInt8)} (h : Two w0 p g p2 v L LL W) :
    Calls Tryz.prog 17 #[.pointer (some ⟨p, 0, none⟩)] W fun e w' => ∃ A, e = .returned (.slice A L.length L.length) ∧ Bytes8 w' A L.length L.length L ∧ Below W.heap.size W w' ∧ Two w0 p g p2 v L LL w' :=
  (Bytes_img W h.img).mono fun e w' ⟨A, h1, h2, h3⟩ => ⟨A, h1, h2, h3, h.later h3⟩

end Go.Proofs.YtnjlganofjkpfaaGreatDoor

/-
  An image and the reference's image, written side by side.
-/
namespace Go.Proofs.YtnjlganofjkpfaaGreatDoor
open Go.RowKit
set_option linter.unusedVariables false
set_option linter.unusedSimpArgs false

/-- what a write of m bytes to block k of q tells -/
def wE (q : Nat) (k : Int) (m : Nat) : Int := if k < 0 ∨ (q : Int) ≤ k then 3 else if m = 256 then 0 else 1
def wL (q : Nat) (k : Int) (m : Nat) (L l : List UInt8) : List UInt8 := if wE q k m = 0 then splice L (k.toNat * 256) l else L
def wM (q : Nat) (k : Int) (m : Nat) (M : List (List UInt8)) (l : List UInt8) : List (List UInt8) := if wE q k m = 0 then M.set k.toNat l else M

theorem wE_cases (q : Nat) (k : Int) (m : Nat) : ((k < 0 ∨ (q : Int) ≤ k) ∧ wE q k m = 3) ∨ (∃ j : Nat, k = j ∧ j < q ∧ m ≠ 256 ∧ wE q k m = 1) ∨ (∃ j : Nat, k = j ∧ j < q ∧ m = 256 ∧ wE q k m = 0) := by
  by_cases h : k < 0 ∨ (q : Int) ≤ k
  · exact .inl ⟨h, by simp [wE, h]⟩
  · obtain ⟨j, rfl⟩ := Int.eq_ofNat_of_zero_le (show 0 ≤ k by omega)
    by_cases hm : m = 256
    · exact .inr (.inr ⟨j, rfl, by omega, hm, by simp only [wE]; rw [if_neg h, if_pos hm]⟩)
    · exact .inr (.inl ⟨j, rfl, by omega, hm, by simp only [wE]; rw [if_neg h, if_neg hm]⟩)

theorem wM_blks {q : Nat} {k : Int} {m : Nat} {L l : List UInt8} (hL : L.length = q * 256) (hl : l.length = m) : wM q k m (blks L q) l = blks (wL q k m L l) q := by
  unfold wL wM
  rcases wE_cases q k m with ⟨_, e⟩ | ⟨j, rfl, hj, hm, e⟩ | ⟨j, rfl, hj, hm, e⟩
  · rw [e, if_neg (by decide), if_neg (by decide)]
  · rw [e, if_neg (by decide), if_neg (by decide)]
  · rw [e, if_pos rfl, if_pos rfl]
    apply List.ext_getElem
    · simp [blks]
    · intro i h1 h2
      have hi : i < q := by simpa [blks] using h2
      simp only [blks, List.getElem_set, List.getElem_map, List.getElem_range, Int.toNat_natCast]
      rw [blk_splice hL (by omega) hj hi]
      by_cases hij : i = j
      · rw [if_pos hij, if_pos hij.symm]
      · rw [if_neg hij, if_neg (fun h => hij h.symm)]

theorem blks_flatten (L : List UInt8) (q : Nat) (hL : L.length = q * 256) : (blks L q).flatten = L := by
  have key : ∀ j, j ≤ q → (blks L j).flatten = L.take (j * 256) := by
    intro j
    induction j with
    | zero => intro _; simp [blks]
    | succ j ih =>
      intro hj
      rw [blks_succ, List.flatten_append, ih (by omega)]
      simp only [List.flatten_cons, List.flatten_nil, List.append_nil, blk]
      rw [Nat.add_mul, Nat.one_mul, List.take_add]
  rw [key q (Nat.le_refl _), List.take_of_length_le (by omega)]

end Go.Proofs.YtnjlganofjkpfaaGreatDoor
