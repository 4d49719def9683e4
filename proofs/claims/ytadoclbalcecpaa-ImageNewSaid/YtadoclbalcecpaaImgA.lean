/-
  Layer 3's image in memory; New.
-/
import Derived.Test.YtadoclbalcecpaaChecked
import Derived.Test.YtadoclbalcecpaaMemD
import Derived.Test.YtadoclbalcecpaaMemE
import Derived.Deep.DeepMust
import Derived.Outline
import Derived.Lib.Builder
namespace Go.Proofs.Ytadoclbalcecpaa
open Go.RowKit
set_option linter.unusedVariables false
set_option linter.unusedSimpArgs false

/-- as w, but for block g -/
structure Kept (g : Nat) (w w' : World) : Prop where
  os : w'.os = w.os
  tape : w'.tape = w.tape
  output : w'.output = w.output
  size : w'.heap.size = w.heap.size
  block : ∀ k, k ≠ g → w'.heap[k]? = w.heap[k]?

theorem Kept.below {g B : Nat} {w w' : World} (h : Kept g w w') (hB : B ≤ g) : Below B w w' := ⟨h.os, h.tape, h.output, by rw [h.size]; exact Nat.le_refl _, fun k hk => h.block k (by omega)⟩
theorem Kept.refl (g : Nat) (w : World) : Kept g w w := ⟨rfl, rfl, rfl, rfl, fun _ _ => rfl⟩
theorem Kept.trans {g : Nat} {a b c : World} (h : Kept g a b) (k : Kept g b c) : Kept g a c := ⟨k.os.trans h.os, k.tape.trans h.tape, k.output.trans h.output, k.size.trans h.size, fun i hi => (k.block i hi).trans (h.block i hi)⟩

/-- an image at block p, its bytes in block g -/
structure Img (w : World) (B p g : Nat) (L : List UInt8) : Prop where
  bp : B ≤ p
  bg : B ≤ g
  ne : p ≠ g
  hp : w.heap[p]? = some (.cells #[.pointer (some ⟨p, 0, none⟩), .slice (some ⟨g, 0, none⟩) L.length L.length] 53 (0, 0))
  hg : w.heap[g]? = some (.cells (u8s L).toArray 5 (0, 0))
  most : L.length ≤ 3686400

theorem Img.below {w w' : World} {B C p g : Nat} {L : List UInt8} (h : Img w B p g L) (hb : Below C w w') (h1 : p < C) (h2 : g < C) : Img w' B p g L :=
  ⟨h.bp, h.bg, h.ne, (hb.block p h1).trans h.hp, (hb.block g h2).trans h.hg, h.most⟩
theorem Img.plt {w : World} {B p g : Nat} {L : List UInt8} (h : Img w B p g L) : p < w.heap.size := block_lt h.hp
theorem Img.glt {w : World} {B p g : Nat} {L : List UInt8} (h : Img w B p g L) : g < w.heap.size := block_lt h.hg
theorem Img.later {w w' : World} {B p g : Nat} {L : List UInt8} (h : Img w B p g L) (hb : Below w.heap.size w w') : Img w' B p g L := h.below hb h.plt h.glt
theorem Img.kept {w w' : World} {B p g q : Nat} {L : List UInt8} (h : Img w B p g L) (hk : Kept q w w') (h1 : p ≠ q) (h2 : g ≠ q) : Img w' B p g L :=
  ⟨h.bp, h.bg, h.ne, (hk.block p h1).trans h.hp, (hk.block g h2).trans h.hg, h.most⟩
theorem Img.down {w : World} {B B' p g : Nat} {L : List UInt8} (h : Img w B p g L) (hB : B' ≤ B) : Img w B' p g L := ⟨Nat.le_trans hB h.bp, Nat.le_trans hB h.bg, h.ne, h.hp, h.hg, h.most⟩
theorem Img.bytes {w : World} {B p g : Nat} {L : List UInt8} (h : Img w B p g L) : Bytes8 w (some ⟨g, 0, none⟩) L.length L.length L :=
  ⟨rfl, Nat.le_refl _, by have := h.most; omega, Row.of_block h.hg⟩
theorem Img.cell0 {w : World} {B p g : Nat} {L : List UInt8} (h : Img w B p g L) : w.cell? ⟨p, 0, none⟩ = some (.pointer (some ⟨p, 0, none⟩)) := by
  rw [cell_of_row w p 0 _ _ _ h.hp]; rfl
theorem Img.cell1 {w : World} {B p g : Nat} {L : List UInt8} (h : Img w B p g L) : w.cell? ⟨p, 1, none⟩ = some (.slice (some ⟨g, 0, none⟩) L.length L.length) := by
  rw [cell_of_row w p 1 _ _ _ h.hp]; rfl

/-- an address, if any, lies from block B on -/
def Fresh (B : Nat) (A : Option Addr) : Prop := ∀ ad, A = some ad → B ≤ ad.block
theorem Fresh.mono {B B' : Nat} {A : Option Addr} (h : Fresh B A) (hb : B' ≤ B) : Fresh B' A := fun ad e => Nat.le_trans hb (h ad e)
theorem Fresh.of_own {w : World} {base : Nat} {e : TypeId} {size n m c : Nat} {A : Option Addr} {xs : List Value} (h : w.ownsRow base e size (.slice A m c) n xs) : Fresh base A := by
  intro ad e
  subst e
  rcases h.2 with ⟨hv, _⟩ | ⟨g, cap, cur, hv, hg, _⟩
  · cases hv
  · injection hv with h1
    injection h1 with h1
    rw [h1]; exact hg
theorem Bytes8.kept {w w' : World} {A : Option Addr} {n c g B : Nat} {l : List UInt8} (h : Bytes8 w A n c l) (hk : Kept g w w') (hf : Fresh B A) (hg : g < B) : Bytes8 w' A n c l :=
  ⟨h.len, h.cap, h.most, fun k v hv => by
    obtain ⟨ad, e, hc⟩ := h.row k v hv
    refine ⟨ad, e, ?_⟩
    have hb : (ad.add k).block = ad.block := addr_add_block ad k
    have := hf ad e
    exact (World.cell?_of_block (w := w) (hk.block _ (by rw [hb]; omega))).trans hc⟩

theorem info_byte : (Try.prog.info? 5).map (fun i => (i.zero, i.size, i.bytes)) = some (some (.int .u8 0), 1, 1) := by kernel_rfl
theorem size_byte : (Try.prog.info? 5).map (·.size) = some 1 := by kernel_rfl
theorem build_img (A : Option Addr) (n c : Nat) (w : World) : (Instr.build 53 #[(1, .slice A n c)]).run Try.prog w = .ok (.agg #[.pointer none, .slice A n c]) w := run_build w _ _ _ (by kernel_rfl)

theorem zeros_u8 (n : Nat) : (madeCells #[Value.int .u8 0] n).toList = u8s (List.replicate n 0) := by
  apply List.ext_getElem
  · simp [madeCells, u8s]
  · intro i h1 h2
    have e : i % 1 = 0 := Nat.mod_one i
    simp [madeCells, u8s, e]

set_option maxHeartbeats 800000 in
theorem New_bad (n : Int) (w : World) (hn : n < 0 ∨ 14400 < n) :
    Calls Try.prog 19 #[.int .i64 n] w fun e w' => e = .returned (.tuple #[.pointer none, .int .i64 2]) ∧ w = w' := by
  rcases hn with hn | hn
  all_goals go_enter Try.func19, Try.ntmps19
  all_goals go_wp2
  all_goals go_ret2
  all_goals exact ⟨rfl, rfl⟩

set_option maxHeartbeats 800000 in
theorem New_good (n : Nat) (w : World) (hn : n ≤ 14400) :
    Calls Try.prog 19 #[.int .i64 (n : Int)] w fun e w' => ∃ p g, e = .returned (.tuple #[.pointer (some ⟨p, 0, none⟩), .int .i64 0]) ∧ Img w' w.heap.size p g (List.replicate (n * 256) 0) ∧ Below w.heap.size w w' := by
  obtain ⟨i0, hi0, hz0, hz1, hz2⟩ := info_parts info_byte
  have hc : Hid (((n : Int) * 256) = ((n * 256 : Nat) : Int)) := by show _ = _; omega
  have kb := build_img
  have HZ := Lib.hid (zeros_u8 (n * 256))
  go_enter Try.func19, Try.ntmps19
  go_wp2_with (at_make; go_must (refine wpList_make_full w rfl (.tmp 12) (.tmp 12) _ rfl w.heap.size 5 i0 _ 1 Try.underlying22 hi0 hz0 hz1 .i64 .i64 _ _ (n * 256) rfl rfl hc.out hc.out (by rw [hz2]; omega) (by simp only [maxLen]; omega) (Nat.le_refl _) ?_; intro w1 hown1 hg1; have hb1 := below_of_grown hg1 (by simp); have HO1 := Lib.hid hown1; clear hown1))
  go_ret2
  have hw := ownsRow_whole HO1.out
  have hl := block_lt hw
  refine ⟨_, _, rfl, ⟨by have := hb1.size; omega, Nat.le_refl _, by omega, ?_, ?_, ?_⟩, hb1.alloc hb1.size _⟩
  · have := heap_alloc_new w1 (.cells #[.pointer (some ⟨w1.heap.size, 0, none⟩), .slice (some ⟨w.heap.size, 0, none⟩) (n * 256) (n * 256)] 53 (0, 0))
    rw [this, List.length_replicate]
  · have := Below.heap_alloc w1 (.cells #[.pointer (some ⟨w1.heap.size, 0, none⟩), .slice (some ⟨w.heap.size, 0, none⟩) (n * 256) (n * 256)] 53 (0, 0)) w.heap.size hl
    rw [this, hw, ← HZ.out]
    simp [Value.cells]
  · rw [List.length_replicate]; omega

theorem neq_same (ad : Addr) (w : World) : (binOp .neq 26 (.pointer (some ad)) (.pointer (some ad))).run Try.prog w = .ok (.bool false) w := by
  obtain ⟨j, hj⟩ : ∃ j, Try.prog.info? 53 = some j := Option.isSome_iff_exists.1 (by kernel_rfl)
  exact Lib.run_neq_ptr_same w ad Try.underlying26 hj
theorem neq_nil_ptr (ad : Addr) (w : World) : (binOp .neq 26 (.pointer none) (.pointer (some ad))).run Try.prog w = .ok (.bool true) w := by
  have h : ∀ d : Nat, (Op.equalIn (d + 1) 26 (.pointer none) (.pointer (some ad))).run Try.prog w = .ok false w := fun d => by
    simp [Op.equalIn, run_underlying Try.underlying26]
  simp only [binOp]
  simp [Op.equal, Op.maxDepth, h 9999]

theorem own_nil (w : World) : Calls Try.prog 23 #[.pointer none] w fun e w' => e = .returned (.slice none 0 0) ∧ w = w' := by
  go_enter Try.func23, Try.ntmps23
  go_wp2
  go_ret
  exact ⟨rfl, rfl⟩

/-- an Image that no constructor returned -/
theorem own_other (p : Nat) (w : World) (h0 : w.cell? ⟨p, 0, none⟩ = some (.pointer none)) : Calls Try.prog 23 #[.pointer (some ⟨p, 0, none⟩)] w fun e w' => e = .returned (.slice none 0 0) ∧ w = w' := by
  have kn := neq_nil_ptr ⟨p, 0, none⟩ w
  go_enter Try.func23, Try.ntmps23
  go_wp2
  go_ret
  exact ⟨rfl, rfl⟩

theorem own_img {B p g : Nat} {L : List UInt8} (w : World) (h : Img w B p g L) : Calls Try.prog 23 #[.pointer (some ⟨p, 0, none⟩)] w fun e w' => e = .returned (.slice (some ⟨g, 0, none⟩) L.length L.length) ∧ w = w' := by
  have h0 := h.cell0
  have h1 := h.cell1
  have kn := neq_same ⟨p, 0, none⟩ w
  clear h
  go_enter Try.func23, Try.ntmps23
  go_wp2
  go_ret
  exact ⟨rfl, rfl⟩

theorem Blocks_nil (w : World) : Calls Try.prog 16 #[.pointer none] w fun e w' => e = .returned (.int .i64 0) ∧ w = w' := by
  go_enter Try.func16, Try.ntmps16
  go_wp2_with (go_at_call 23; refine (own_nil _).mono ?_; rintro e w' ⟨rfl, rfl⟩)
  go_ret
  exact ⟨rfl, rfl⟩

theorem Blocks_other (p : Nat) (w : World) (h0 : w.cell? ⟨p, 0, none⟩ = some (.pointer none)) : Calls Try.prog 16 #[.pointer (some ⟨p, 0, none⟩)] w fun e w' => e = .returned (.int .i64 0) ∧ w = w' := by
  have H := Lib.hid (own_other p w h0)
  clear h0
  go_enter Try.func16, Try.ntmps16
  go_wp2_with (go_at_call 23; refine (H.out).mono ?_; rintro e w' ⟨rfl, rfl⟩)
  go_ret
  exact ⟨rfl, rfl⟩

theorem Blocks_img {B p g n : Nat} {L : List UInt8} (w : World) (h : Img w B p g L) (hn : L.length = n * 256) : Calls Try.prog 16 #[.pointer (some ⟨p, 0, none⟩)] w fun e w' => e = .returned (.int .i64 (n : Int)) ∧ w = w' := by
  have H := Lib.hid (own_img w h)
  have hm := h.most
  rw [hn] at H hm
  clear hn h
  have e1 : ((n : Int) * 256).tdiv 256 = (n : Int) := Int.mul_tdiv_cancel _ (by decide)
  go_enter Try.func16, Try.ntmps16
  go_wp2_with (go_at_call 23; refine (H.out).mono ?_; rintro e w' ⟨rfl, rfl⟩)
  go_ret
  exact ⟨rfl, rfl⟩

end Go.Proofs.Ytadoclbalcecpaa
