/-
  The reference's image in memory: a list of strings behind a pointer; its New.
-/
import Derived.Test.YtadoclbalcecpaaImgE
import Derived.Deep.AppendLies
import Derived.Lib.AppendStr
import Derived.Laws.IdiomStrings
namespace Go.Proofs.Ytadoclbalcecpaa
open Go.RowKit
set_option linter.unusedVariables false
set_option linter.unusedSimpArgs false

/-- bytes as a string -/
def txt (l : List UInt8) : Value := .string ⟨l.toArray⟩
def txts (L : List (List UInt8)) : List Value := L.map txt
theorem txts_length (L : List (List UInt8)) : (txts L).length = L.length := by simp [txts]
theorem txts_append (L M : List (List UInt8)) : txts (L ++ M) = txts L ++ txts M := by simp [txts]
theorem txts_one (L : List (List UInt8)) : ∀ u ∈ txts L, u.oneCell' = true := by
  intro u hu
  obtain ⟨_, _, rfl⟩ := List.mem_map.1 hu
  rfl
theorem txts_at (L : List (List UInt8)) (k : Nat) (h : k < L.length) : (txts L)[k]? = some (txt L[k]) := by simp [txts, h]

/-- the reference's image at block p -/
structure RImg (w : World) (B p : Nat) (v : Value) (L : List (List UInt8)) : Prop where
  bp : B ≤ p
  hp : w.heap[p]? = some (.cells #[v] 42 (0, 0))
  own : w.ownsRow (p + 1) 9 1 v L.length (txts L)

theorem RImg.plt {w : World} {B p : Nat} {v : Value} {L : List (List UInt8)} (h : RImg w B p v L) : p < w.heap.size := block_lt h.hp
theorem own_later {w w' : World} {base : Nat} {e : TypeId} {size n : Nat} {v : Value} {xs : List Value} (h : w.ownsRow base e size v n xs) (hb : Below w.heap.size w w') : w'.ownsRow base e size v n xs := own_below h hb
theorem RImg.later {w w' : World} {B p : Nat} {v : Value} {L : List (List UInt8)} (h : RImg w B p v L) (hb : Below w.heap.size w w') : RImg w' B p v L :=
  ⟨h.bp, (hb.block p h.plt).trans h.hp, own_later h.own hb⟩
theorem RImg.kept {w w' : World} {B p g : Nat} {v : Value} {L : List (List UInt8)} (h : RImg w B p v L) (hk : Kept g w w') (hg : g < p) : RImg w' B p v L := by
  refine ⟨h.bp, (hk.block p (by omega)).trans h.hp, h.own.1, ?_⟩
  rcases h.own.2 with hn | ⟨g2, cap, cur, hv, hg2, hh, rest⟩
  · exact .inl hn
  · exact .inr ⟨g2, cap, cur, hv, hg2, (hk.block g2 (by omega)).trans hh, rest⟩
theorem RImg.form {w : World} {B p : Nat} {v : Value} {L : List (List UInt8)} (h : RImg w B p v L) : ∃ A c, v = .slice A L.length c ∧ L.length ≤ c ∧ c ≤ 9223372036854775807 ∧ w.cell? ⟨p, 0, none⟩ = some (.slice A L.length c) ∧ Row w A (txts L) := by
  obtain ⟨A, c, rfl, h1, h2⟩ := ownsRow_form h.own
  refine ⟨A, c, rfl, h1, by simpa [maxLen] using h2, ?_, Row.of_own h.own⟩
  rw [cell_of_row w p 0 _ _ _ h.hp]
  rfl
theorem RImg.cell {w : World} {B p : Nat} {v : Value} {L : List (List UInt8)} (h : RImg w B p v L) : w.cell? ⟨p, 0, none⟩ = some v := by
  rw [cell_of_row w p 0 _ _ _ h.hp]
  rfl
theorem RImg.free {w : World} {B p : Nat} {v : Value} {L : List (List UInt8)} (h : RImg w B p v L) : w.frozen? ⟨p, 0, none⟩ = false := frozen_of_row w p 0 _ _ h.hp
/-- another list of strings is laid in -/
theorem RImg.put {w : World} {B p : Nat} {v v' : Value} {L' : List (List UInt8)} (hB : B ≤ p) (hp : w.heap[p]? = some (.cells #[v] 42 (0, 0))) (ho : w.ownsRow (p + 1) 9 1 v' L'.length (txts L')) :
    RImg (w.setCell ⟨p, 0, none⟩ v') B p v' L' := by
  refine ⟨hB, ?_, ownsRow_setCell_below ho (by simp) _⟩
  rw [heap_setCell_same w p 0 _ _ v' hp]
  rfl

theorem info_string : (Try.prog.info? 9).map (fun i => (i.zero, i.size, i.bytes)) = some (some (.string ByteArray.empty), 1, 16) := by kernel_rfl
theorem build_ref (w : World) : (Instr.build 42 #[]).run Try.prog w = .ok (.agg #[.slice none 0 0]) w := run_build w _ _ _ (by kernel_rfl)

theorem RImg.new (w : World) : RImg (w.alloc (.cells #[.slice none 0 0] 42)) w.heap.size w.heap.size (.slice none 0 0) [] :=
  ⟨Nat.le_refl _, heap_alloc_new w _, World.ownsRow_nil _ _ _ _⟩

set_option maxHeartbeats 800000 in
theorem refNew_bad (n : Int) (w : World) (hn : n < 0 ∨ 14400 < n) :
    Calls Try.prog 20 #[.int .i64 n] w fun e w' => e = .returned (.tuple #[.pointer none, .int .i64 2]) ∧ w = w' := by
  rcases hn with hn | hn
  all_goals go_enter Try.func20, Try.ntmps20
  all_goals go_wp2
  all_goals go_ret2
  all_goals exact ⟨rfl, rfl⟩

set_option maxRecDepth 100000 in
set_option maxHeartbeats 1600000 in
theorem refNew_good (n : Nat) (w : World) (hn : n ≤ 14400) :
    Calls Try.prog 20 #[.int .i64 (n : Int)] w fun e w' => ∃ v, e = .returned (.tuple #[.pointer (some ⟨w.heap.size, 0, none⟩), .int .i64 0]) ∧ RImg w' w.heap.size w.heap.size v (List.replicate n (List.replicate 256 0)) ∧ Below w.heap.size w w' := by
  have hmk : ∀ W : World, (Instr.makeSlice 22 (.int .i64 256) (.int .i64 256)).run Try.prog W = .ok (.slice (some ⟨W.heap.size, 0, none⟩) 256 256) (W.alloc (.cells (madeCells #[.int .u8 0] 256) 5)) :=
    fun W => run_make_row' 22 5 (.int .u8 0) 1 Try.underlying22 info_byte rfl .i64 .i64 256 (by omega) (by omega) W
  have kb := build_ref
  have h0 := RImg.new w
  obtain ⟨w0, hw0⟩ : ∃ w0, w0 = w.alloc (.cells #[.slice none 0 0] 42) := ⟨_, rfl⟩
  have hs0 : w0.heap.size = w.heap.size + 1 := by rw [hw0]; simp
  obtain ⟨zs, hzs⟩ : ∃ zs : List UInt8, zs = List.replicate 256 0 := ⟨_, rfl⟩
  have cv : (convert 22 9 (.slice (some ⟨w.heap.size + 1, 0, none⟩) 256 256)).run Try.prog ((w.alloc (.cells #[.slice none 0 0] 42)).alloc (.cells (madeCells #[.int .u8 0] 256) 5)) = .ok (.string ⟨zs.toArray⟩) ((w.alloc (.cells #[.slice none 0 0] 42)).alloc (.cells (madeCells #[.int .u8 0] 256) 5)) := by
    have := run_text (made_bytes w0 256 (by omega))
    rw [hs0, hw0, ← hzs] at this
    exact this
  have h1 : Hid (RImg ((w.alloc (.cells #[.slice none 0 0] 42)).alloc (.cells (madeCells #[.int .u8 0] 256) 5)) w.heap.size w.heap.size (.slice none 0 0) (List.replicate 0 zs)) := h0.later ((Below.refl _ _).alloc (Nat.le_refl _) _)
  have hb1 : Below w.heap.size w ((w.alloc (.cells #[.slice none 0 0] 42)).alloc (.cells (madeCells #[.int .u8 0] 256) 5)) := ((Below.refl _ _).alloc (Nat.le_refl _) _).alloc (by simp) _
  rw [← hzs]
  clear hzs hw0 hs0 h0 w0
  go_enter Try.func20, Try.ntmps20
  go_wp2
  go_loopw [6] (fun i wr => ∃ j : Nat, j ≤ n ∧ i = .int .i64 j ∧ Below w.heap.size w wr ∧ Hid (∃ v, RImg wr w.heap.size w.heap.size v (List.replicate j zs))) (fun i _ => n - (intOf i).toNat)
  case atStart => exact ⟨0, by omega, rfl, hb1, ⟨_, h1⟩⟩
  case round =>
    obtain ⟨j, hj, rfl, hbel, hR⟩ := hrel
    obtain ⟨v, hR⟩ := hR.out
    by_cases hlt : j < n
    · have hc := hR.cell
      have HR := Lib.hid hR
      have hown : Hid (wr.ownsRow (w.heap.size + 1) 9 1 v j (txts (List.replicate j zs))) := by have := hR.own; rwa [List.length_replicate] at this
      have hsz := hR.plt
      clear hR
      go_wp2_with (at_builtin; go_must (refine wpList_append_new wr rfl _ _ 40 rfl (w.heap.size + 1) 9 9 (.string ByteArray.empty) 16 Try.underlying40 info_string rfl v j _ rfl hown (by omega) [.string ⟨zs.toArray⟩] 1 1 rfl rfl (txts_one [zs]) (by omega) (by omega) ?_; intro v2 w2 hown2 hs2 hb2; have hp2 : Hid (w2.heap[w.heap.size]? = _) := (hb2.block w.heap.size (by omega)).trans HR.out.hp; have hc2 : w2.cell? ⟨w.heap.size, 0, none⟩ = some v := (hb2.cell (p := ⟨w.heap.size, 0, none⟩) (by simp)).trans hc; have hf2 : w2.frozen? ⟨w.heap.size, 0, none⟩ = false := frozen_of_row w2 w.heap.size 0 _ _ hp2.out; obtain ⟨A2, c2, hv2, h62, h63⟩ := ownsRow_form hown2.out; rw [hv2]))
      go_roundw
      case rel =>
        have hx := hown2.out
        rw [hv2] at hx
        have e : txts (List.replicate j zs) ++ [.string ⟨zs.toArray⟩] = txts (List.replicate (j + 1) zs) := by rw [List.replicate_succ', txts_append]; rfl
        rw [e] at hx
        refine ⟨j + 1, by omega, by go_num, (hbel.trans (hb2.mono (by omega))).setCell (by simp) _, _, RImg.put (Nat.le_refl _) hp2.out (by rw [List.length_replicate]; exact hx)⟩
      case measure => simp [intOf]; omega
    · obtain rfl : j = n := by omega
      go_wp2
      go_ret2
      exact ⟨v, rfl, hR, hbel⟩

end Go.Proofs.Ytadoclbalcecpaa
