/-
  Joined: ImgA, ImgB, ImgC, ImgD, MemL.
-/
import Derived.Test.YtnjlganofjkpfaaGreatChecked
import Derived.Deep.DeepMust
import Derived.Outline
import Derived.Lib.Builder
import Derived.Test.YtnjlganofjkpfaaGreatJBldB03
import Derived.Test.YtnjlganofjkpfaaGreatJBldB02
import Derived.Test.YtnjlganofjkpfaaGreatJBldB09
import Derived.Laws.BytesArg
import Derived.Deep.OwnRows
/-
  Layer 3's image in memory; New.
-/
namespace Go.Proofs.YtnjlganofjkpfaaGreat
open Go.RowKit
set_option linter.unusedVariables false
set_option linter.unusedSimpArgs false

/-- as w, but for block g -/
structure Kept (g : Nat) (w w' : World) : Prop where
  os : w'.os = w.os
  tape : w'.tape = w.tape
  output : w'.output = w.output
  size : w'.heap.size = w.heap.size
  block : ∀ k, k ≠ g → w'.heap[k]? = w.heap[k]?

theorem Kept.below {g B : Nat} {w w' : World} (h : Kept g w w') (hB : B ≤ g) : Below B w w' := ⟨h.os, h.tape, h.output, by rw [h.size]; exact Nat.le_refl _, fun k hk => h.block k (by omega)⟩
theorem Kept.refl (g : Nat) (w : World) : Kept g w w := ⟨rfl, rfl, rfl, rfl, fun _ _ => rfl⟩
theorem Kept.trans {g : Nat} {a b c : World} (h : Kept g a b) (k : Kept g b c) : Kept g a c := ⟨k.os.trans h.os, k.tape.trans h.tape, k.output.trans h.output, k.size.trans h.size, fun i hi => (k.block i hi).trans (h.block i hi)⟩

/-- an image at block p, its bytes in block g -/
structure Img (w : World) (B p g : Nat) (L : List UInt8) : Prop where
  bp : B ≤ p
  bg : B ≤ g
  ne : p ≠ g
  hp : w.heap[p]? = some (.cells #[.pointer (some ⟨p, 0, none⟩), .slice (some ⟨g, 0, none⟩) L.length L.length] 66 (0, 0))
  hg : w.heap[g]? = some (.cells (u8s L).toArray 5 (0, 0))
  most : L.length ≤ 3686400

theorem Img.below {w w' : World} {B C p g : Nat} {L : List UInt8} (h : Img w B p g L) (hb : Below C w w') (h1 : p < C) (h2 : g < C) : Img w' B p g L :=
  ⟨h.bp, h.bg, h.ne, (hb.block p h1).trans h.hp, (hb.block g h2).trans h.hg, h.most⟩
theorem Img.plt {w : World} {B p g : Nat} {L : List UInt8} (h : Img w B p g L) : p < w.heap.size := block_lt h.hp
theorem Img.glt {w : World} {B p g : Nat} {L : List UInt8} (h : Img w B p g L) : g < w.heap.size := block_lt h.hg
theorem Img.later {w w' : World} {B p g : Nat} {L : List UInt8} (h : Img w B p g L) (hb : Below w.heap.size w w') : Img w' B p g L := h.below hb h.plt h.glt
theorem Img.kept {w w' : World} {B p g q : Nat} {L : List UInt8} (h : Img w B p g L) (hk : Kept q w w') (h1 : p ≠ q) (h2 : g ≠ q) : Img w' B p g L :=
  ⟨h.bp, h.bg, h.ne, (hk.block p h1).trans h.hp, (hk.block g h2).trans h.hg, h.most⟩
theorem Img.down {w : World} {B B' p g : Nat} {L : List UInt8} (h : Img w B p g L) (hB : B' ≤ B) : Img w B' p g L := ⟨Nat.le_trans hB h.bp, Nat.le_trans hB h.bg, h.ne, h.hp, h.hg, h.most⟩
theorem Img.bytes {w : World} {B p g : Nat} {L : List UInt8} (h : Img w B p g L) : Bytes8 w (some ⟨g, 0, none⟩) L.length L.length L :=
  ⟨rfl, Nat.le_refl _, by have := h.most; omega, Row.of_block h.hg⟩
theorem Img.cell0 {w : World} {B p g : Nat} {L : List UInt8} (h : Img w B p g L) : w.cell? ⟨p, 0, none⟩ = some (.pointer (some ⟨p, 0, none⟩)) := by
  rw [cell_of_row w p 0 _ _ _ h.hp]; rfl
theorem Img.cell1 {w : World} {B p g : Nat} {L : List UInt8} (h : Img w B p g L) : w.cell? ⟨p, 1, none⟩ = some (.slice (some ⟨g, 0, none⟩) L.length L.length) := by
  rw [cell_of_row w p 1 _ _ _ h.hp]; rfl

/-- an address, if any, lies from block B on -/
def Fresh (B : Nat) (A : Option Addr) : Prop := ∀ ad, A = some ad → B ≤ ad.block
theorem Fresh.mono {B B' : Nat} {A : Option Addr} (h : Fresh B A) (hb : B' ≤ B) : Fresh B' A := fun ad e => Nat.le_trans hb (h ad e)
theorem Fresh.of_own {w : World} {base : Nat} {e : TypeId} {size n m c : Nat} {A : Option Addr} {xs : List Value} (h : w.ownsRow base e size (.slice A m c) n xs) : Fresh base A := by
  intro ad e
  subst e
  rcases h.2 with ⟨hv, _⟩ | ⟨g, cap, cur, hv, hg, _⟩
  · cases hv
  · injection hv with h1
    injection h1 with h1
    rw [h1]; exact hg
theorem Bytes8.kept {w w' : World} {A : Option Addr} {n c g B : Nat} {l : List UInt8} (h : Bytes8 w A n c l) (hk : Kept g w w') (hf : Fresh B A) (hg : g < B) : Bytes8 w' A n c l :=
  ⟨h.len, h.cap, h.most, fun k v hv => by
    obtain ⟨ad, e, hc⟩ := h.row k v hv
    refine ⟨ad, e, ?_⟩
    have hb : (ad.add k).block = ad.block := addr_add_block ad k
    have := hf ad e
    exact (World.cell?_of_block (w := w) (hk.block _ (by rw [hb]; omega))).trans hc⟩

theorem build_img (A : Option Addr) (n c : Nat) (w : World) : (Instr.build 66 #[(1, .slice A n c)]).run Tryz.prog w = .ok (.agg #[.pointer none, .slice A n c]) w := run_build w _ _ _ (by kernel_rfl)

set_option maxRecDepth 100000 in
set_option maxHeartbeats 800000 in
theorem New_good (n : Nat) (w : World) (hn : n ≤ 14400) :
    Calls Tryz.prog 27 #[.int .i64 (n : Int)] w fun e w' => ∃ p g, e = .returned (.tuple #[.pointer (some ⟨p, 0, none⟩), .int .i64 0]) ∧ Img w' w.heap.size p g (List.replicate (n * 256) 0) ∧ Below w.heap.size w w' := by
  obtain ⟨i0, hi0, hz0, hz1, hz2⟩ := info_parts info_u8
  have hc : Hid (((n : Int) * 256) = ((n * 256 : Nat) : Int)) := by show _ = _; omega
  have kb := build_img
  have HZ := Lib.hid (zeros_u8 (n * 256))
  go_enter Tryz.func27, Tryz.ntmps27
  go_wp2_with (at_make; go_must (refine wpList_make_full w rfl (.tmp 12) (.tmp 12) _ rfl w.heap.size 5 i0 _ 1 Tryz.underlying22 hi0 hz0 hz1 .i64 .i64 _ _ (n * 256) rfl rfl hc.out hc.out (by rw [hz2]; omega) (by simp only [maxLen]; omega) (Nat.le_refl _) ?_; intro w1 hown1 hg1; have hb1 := below_of_grown hg1 (by simp); have HO1 := Lib.hid hown1; clear hown1))
  go_ret2
  have hw := ownsRow_whole HO1.out
  have hl := block_lt hw
  refine ⟨_, _, rfl, ⟨by have := hb1.size; omega, Nat.le_refl _, by omega, ?_, ?_, ?_⟩, hb1.alloc hb1.size _⟩
  · have := heap_alloc_new w1 (.cells #[.pointer (some ⟨w1.heap.size, 0, none⟩), .slice (some ⟨w.heap.size, 0, none⟩) (n * 256) (n * 256)] 66 (0, 0))
    rw [this, List.length_replicate]
  · have := Below.heap_alloc w1 (.cells #[.pointer (some ⟨w1.heap.size, 0, none⟩), .slice (some ⟨w.heap.size, 0, none⟩) (n * 256) (n * 256)] 66 (0, 0)) w.heap.size hl
    rw [this, hw, ← HZ.out]
    simp [Value.cells]
  · rw [List.length_replicate]; omega

theorem neq_same (ad : Addr) (w : World) : (binOp .neq 39 (.pointer (some ad)) (.pointer (some ad))).run Tryz.prog w = .ok (.bool false) w := by
  obtain ⟨j, hj⟩ : ∃ j, Tryz.prog.info? 66 = some j := Option.isSome_iff_exists.1 (by kernel_rfl)
  exact Lib.run_neq_ptr_same w ad Tryz.underlying39 hj
set_option maxRecDepth 100000 in
theorem own_img {B p g : Nat} {L : List UInt8} (w : World) (h : Img w B p g L) : Calls Tryz.prog 36 #[.pointer (some ⟨p, 0, none⟩)] w fun e w' => e = .returned (.slice (some ⟨g, 0, none⟩) L.length L.length) ∧ w = w' := by
  have h0 := h.cell0
  have h1 := h.cell1
  have kn := neq_same ⟨p, 0, none⟩ w
  clear h
  go_enter Tryz.func36, Tryz.ntmps36
  go_wp2
  go_ret
  exact ⟨rfl, rfl⟩

set_option maxRecDepth 100000 in
theorem Blocks_img {B p g n : Nat} {L : List UInt8} (w : World) (h : Img w B p g L) (hn : L.length = n * 256) : Calls Tryz.prog 25 #[.pointer (some ⟨p, 0, none⟩)] w fun e w' => e = .returned (.int .i64 (n : Int)) ∧ w = w' := by
  have H := Lib.hid (own_img w h)
  have hm := h.most
  rw [hn] at H hm
  clear hn h
  have e1 : ((n : Int) * 256).tdiv 256 = (n : Int) := Int.mul_tdiv_cancel _ (by decide)
  go_enter Tryz.func25, Tryz.ntmps25
  go_wp2_with (go_at_call 36; refine (H.out).mono ?_; rintro e w' ⟨rfl, rfl⟩)
  go_ret
  exact ⟨rfl, rfl⟩

end Go.Proofs.YtnjlganofjkpfaaGreat

/-
  Layer 3's block, Read, Write.
-/
namespace Go.Proofs.YtnjlganofjkpfaaGreat
open Go.RowKit
set_option linter.unusedVariables false
set_option linter.unusedSimpArgs false

set_option maxRecDepth 100000 in
/-- there is no block k: n is what Blocks answers -/
theorem block_bad (p : Nat) (k : Int) (n : Nat) (w : World) (hB : Calls Tryz.prog 25 #[.pointer (some ⟨p, 0, none⟩)] w fun e w' => e = .returned (.int .i64 (n : Int)) ∧ w = w') (hk : k < 0 ∨ (n : Int) ≤ k) :
    Calls Tryz.prog 86 #[.pointer (some ⟨p, 0, none⟩), .int .i64 k] w fun e w' => e = .returned (.tuple #[.slice none 0 0, .int .i64 3]) ∧ w = w' := by
  have HB := Lib.hid hB
  clear hB
  by_cases h0 : k < 0
  · clear hk
    go_enter Tryz.func86, Tryz.ntmps86
    go_wp2_with (go_at_call 25; refine (HB.out).mono ?_; rintro e w' ⟨rfl, rfl⟩)
    go_ret2
    exact ⟨rfl, rfl⟩
  · have h1 : (n : Int) ≤ k := by omega
    clear hk
    go_enter Tryz.func86, Tryz.ntmps86
    go_wp2_with (go_at_call 25; refine (HB.out).mono ?_; rintro e w' ⟨rfl, rfl⟩)
    go_ret2
    exact ⟨rfl, rfl⟩

set_option maxRecDepth 100000 in
theorem block_img {B p g n : Nat} {L : List UInt8} (k : Nat) (w : World) (h : Img w B p g L) (hn : L.length = n * 256) (hk : k < n) :
    Calls Tryz.prog 86 #[.pointer (some ⟨p, 0, none⟩), .int .i64 (k : Int)] w fun e w' => e = .returned (.tuple #[.slice (some ⟨g, k * 256, none⟩) 256 (n * 256 - k * 256), .int .i64 0]) ∧ w = w' := by
  have HB := Lib.hid (Blocks_img w h hn)
  have h1 := h.cell1
  have hm := h.most
  rw [hn] at h1 hm
  clear h hn
  have e256 : (k + 1) * 256 - k * 256 = 256 := by omega
  go_enter Tryz.func86, Tryz.ntmps86
  go_wp2_with (go_at_call 25; refine (HB.out).mono ?_; rintro e w' ⟨rfl, rfl⟩)
  go_ret2
  refine ⟨?_, rfl⟩
  show Ending.returned (.tuple #[.slice (some ⟨g, k * 256, none⟩) ((k + 1) * 256 - k * 256) (n * 256 - k * 256), .int .i64 0]) = _
  rw [e256]

set_option maxRecDepth 100000 in
theorem Read_bad (p : Nat) (k : Int) (n : Nat) (w : World) (hB : Calls Tryz.prog 25 #[.pointer (some ⟨p, 0, none⟩)] w fun e w' => e = .returned (.int .i64 (n : Int)) ∧ w = w') (hk : k < 0 ∨ (n : Int) ≤ k) :
    Calls Tryz.prog 88 #[.pointer (some ⟨p, 0, none⟩), .int .i64 k] w fun e w' => e = .returned (.tuple #[.slice none 0 0, .int .i64 3]) ∧ w = w' := by
  have HB := Lib.hid (block_bad p k n w hB hk)
  clear hB hk
  go_enter Tryz.func88, Tryz.ntmps88
  go_wp2_with (go_at_call 86; refine (HB.out).mono ?_; rintro e w' ⟨rfl, rfl⟩)
  go_ret2
  exact ⟨rfl, rfl⟩

theorem Bytes8.part {w : World} {g n : Nat} {L : List UInt8} {B p : Nat} (h : Img w B p g L) (k : Nat) : Row w (some ⟨g, k, none⟩) (u8s (L.drop k)) := by
  have := h.bytes.row.drop k
  rw [u8s_drop] at this
  simpa [Addr.add_lit] using this

/-- block k of the bytes of an image -/
def blk (L : List UInt8) (k : Nat) : List UInt8 := (L.drop (k * 256)).take 256
theorem blk_length {L : List UInt8} {n k : Nat} (hn : L.length = n * 256) (hk : k < n) : (blk L k).length = 256 := by
  simp only [blk, List.length_take, List.length_drop]
  omega

set_option maxRecDepth 100000 in
set_option maxHeartbeats 800000 in
theorem Read_fresh {B p g n : Nat} {L : List UInt8} (k : Nat) (w : World) (h : Img w B p g L) (hn : L.length = n * 256) (hk : k < n) :
    Calls Tryz.prog 88 #[.pointer (some ⟨p, 0, none⟩), .int .i64 (k : Int)] w fun e w' => ∃ A, e = .returned (.tuple #[.slice A 256 256, .int .i64 0]) ∧ Bytes8 w' A 256 256 (blk L k) ∧ Below w.heap.size w w' ∧ Fresh w.heap.size A := by
  have HB := Lib.hid (block_img k w h hn hk)
  have HR : Hid (Row w (some ⟨g, k * 256, none⟩) (u8s (blk L k))) := by
    have := (Bytes8.part (n := n) h (k * 256)).take 256
    rwa [u8s_take] at this
  have HL := Lib.hid (blk_length hn hk)
  clear h hn
  go_enter Tryz.func88, Tryz.ntmps88
  go_wp2_with (first
    | (go_at_call 86; refine (HB.out).mono ?_; rintro e w' ⟨rfl, rfl⟩)
    | (at_builtin; go_must (refine wpList_append_row _ rfl _ _ 22 rfl w.heap.size 5 (.int .u8 0) 1 Tryz.underlying22 info_u8 rfl (.slice none 0 0) 0 [] rfl (World.ownsRow_nil _ _ _ _) (Nat.le_refl _) (some ⟨g, k * 256, none⟩) (u8s (blk L k)) 256 _ rfl (by rw [u8s_length]; exact HL.out) HR.out (u8s_one _) (by omega) (by omega) ?_; intro v2 w2 hown2 hs2 hb2; obtain ⟨A2, c2, hv2, HB2⟩ := Bytes8.of_own hown2.out; rw [hv2]; have hc2 := HB2.cap; have hf2 : Hid (Fresh w.heap.size A2) := Fresh.of_own (by rw [← hv2]; exact hown2.out); clear hown2)))
  go_ret2
  exact ⟨A2, rfl, ⟨HL.out, Nat.le_refl _, by omega, HB2.row⟩, hb2, hf2.out⟩

theorem Read_img {B p g n : Nat} {L : List UInt8} (k : Nat) (w : World) (h : Img w B p g L) (hn : L.length = n * 256) (hk : k < n) :
    Calls Tryz.prog 88 #[.pointer (some ⟨p, 0, none⟩), .int .i64 (k : Int)] w fun e w' => ∃ A, e = .returned (.tuple #[.slice A 256 256, .int .i64 0]) ∧ Bytes8 w' A 256 256 (blk L k) ∧ Below w.heap.size w w' :=
  (Read_fresh k w h hn hk).mono fun e w' ⟨A, h1, h2, h3, _⟩ => ⟨A, h1, h2, h3⟩

/-- copy into a row that is known whole; no other block turns -/
theorem wpList_copy_keep {P : Program} {w : World} {ops : Array Oper} {rest : List Oper} {o : Oper} {a : Act} {Q : Exit → Act → World → Prop} (hgd : o.guard = none) (d s : Operand) (dT sT : TypeId)
    (ho : o.op = .call { callee := .builtin .copy, args := #[d, s], argTypes := #[dT, sT] }) (elem : TypeId) (hu : P.underlying dT = some (.slice elem)) (hsz : (P.info? elem).map (·.size) = some 1)
    (dp sp : Option Addr) (dLen dCap sLen sCap : Nat) (hd : a.eval d = .slice dp dLen dCap) (hs : a.eval s = .slice sp sLen sCap)
    (g off : Nat) (cur : List Value) (t : TypeId) (hg : w.heap[g]? = some (.cells cur.toArray t (0, 0))) (cs : List Value) (hn : cs.length = Nat.min sLen dLen)
    (hpos : 0 < cs.length → dp = some ⟨g, off, none⟩ ∧ ∃ ad, sp = some ad ∧ ∀ j v, cs[j]? = some v → w.cell? (ad.add j) = some v)
    (hfit : off + cs.length ≤ cur.length) (h1 : ∀ v ∈ cs, v.oneCell' = true)
    (h : ∀ w', Hid (w'.heap[g]? = some (.cells (splice cur off cs).toArray t (0, 0))) → Kept g w w' → wpList P ops Q rest (a.put o.dst (goInt cs.length)) w') :
    wpList P ops Q (o :: rest) a w := by
  by_cases h0 : cs.length = 0
  · obtain rfl : cs = [] := List.eq_nil_of_length_eq_zero h0
    refine wpList_copy_nothing hgd d s dT sT ho elem hu hsz dp sp dLen dCap sLen sCap hd hs (by simpa using hn.symm) ?_
    exact h w (show _ = _ by simpa [splice] using hg) (Kept.refl g w)
  · obtain ⟨rfl, ad, rfl, hsrc⟩ := hpos (by omega)
    refine wpList_copy_own hgd d s dT sT ho elem hu hsz g off dLen dCap ad sLen sCap hd hs cur.toArray t hg cs hn hsrc (by simpa using hfit) h1 ?_
    exact h _ (show _ = _ by simpa [splice] using setRow_heap w g _ _ t _ hg) ⟨rfl, rfl, rfl, by simp [World.setRow], fun k hk => setRow_other w g k _ hk⟩

set_option maxRecDepth 100000 in
theorem Write_bad (p : Nat) (k : Int) (n : Nat) (A : Option Addr) (m c : Nat) (w : World) (hB : Calls Tryz.prog 25 #[.pointer (some ⟨p, 0, none⟩)] w fun e w' => e = .returned (.int .i64 (n : Int)) ∧ w = w') (hk : k < 0 ∨ (n : Int) ≤ k) :
    Calls Tryz.prog 70 #[.pointer (some ⟨p, 0, none⟩), .int .i64 k, .slice A m c] w fun e w' => e = .returned (.int .i64 3) ∧ w = w' := by
  have HB := Lib.hid (block_bad p k n w hB hk)
  clear hB hk
  go_enter Tryz.func70, Tryz.ntmps70
  go_wp2_with (go_at_call 86; refine (HB.out).mono ?_; rintro e w' ⟨rfl, rfl⟩)
  go_ret
  exact ⟨rfl, rfl⟩

set_option maxRecDepth 100000 in
set_option maxHeartbeats 800000 in
theorem Write_img {B p g n : Nat} {L l : List UInt8} (k : Nat) (A : Option Addr) (c : Nat) (w : World) (h : Img w B p g L) (hn : L.length = n * 256) (hk : k < n) (hl : Bytes8 w A 256 c l) :
    Calls Tryz.prog 70 #[.pointer (some ⟨p, 0, none⟩), .int .i64 (k : Int), .slice A 256 c] w fun e w' => e = .returned (.int .i64 0) ∧ Kept g w w' ∧ Img w' B p g (splice L (k * 256) l) := by
  have HB := Lib.hid (block_img k w h hn hk)
  have HI := Lib.hid h
  have HL := Lib.hid hl
  have HN := Lib.hid hn
  clear h hl hn
  go_enter Tryz.func70, Tryz.ntmps70
  go_wp2_with (first
    | (go_at_call 86; refine (HB.out).mono ?_; rintro e w' ⟨rfl, rfl⟩)
    | (refine wpList_copy_keep rfl (.tmp 21) (.tmp 22) _ _ rfl 5 Tryz.underlying22 size_u8 _ _ _ _ _ _ rfl rfl g (k * 256) (u8s L) 5 HI.out.hg (u8s l) (by rw [u8s_length, HL.out.len]; rfl) (fun hp => ⟨rfl, HL.out.row.src hp⟩) (by have h1 := HL.out.len; have h2 := HN.out; rw [u8s_length, u8s_length]; omega) (u8s_one _) ?_; intro w2 HG2 hk2))
  go_ret
  have h1 := HL.out.len
  have h2 := HN.out
  have h3 := HI.out
  have hs : (splice L (k * 256) l).length = L.length := length_splice _ _ _ (by omega)
  refine ⟨rfl, hk2, h3.bp, h3.bg, h3.ne, ?_, ?_, ?_⟩
  · rw [hk2.block p h3.ne, h3.hp, hs]
  · have := HG2.out
    rw [this]
    congr 2
    simp [splice, u8s]
  · rw [hs]; exact h3.most

end Go.Proofs.YtnjlganofjkpfaaGreat

/-
  Layer 3's Of, Bytes, Copy.
-/
namespace Go.Proofs.YtnjlganofjkpfaaGreat
open Go.RowKit
set_option linter.unusedVariables false
set_option linter.unusedSimpArgs false

/-- how many blocks n bytes begin with -/
def whole (n : Nat) : Nat := min (n / 256) 14400

theorem img_fill {w1 w2 : World} {B p g q : Nat} {l : List UInt8} (h : Img w1 B p g (List.replicate (q * 256) 0)) (hl : q * 256 ≤ l.length) (hk : Kept g w1 w2)
    (hg : w2.heap[g]? = some (.cells (splice (u8s (List.replicate (q * 256) 0)) 0 (u8s (l.take (q * 256)))).toArray 5 (0, 0))) : Img w2 B p g (l.take (q * 256)) := by
  have hlen : (l.take (q * 256)).length = q * 256 := by rw [List.length_take]; omega
  refine ⟨h.bp, h.bg, h.ne, ?_, ?_, ?_⟩
  · rw [hk.block p h.ne, h.hp, List.length_replicate, hlen]
  · rw [hg, splice_all _ _ (by rw [u8s_length, u8s_length, List.length_replicate, hlen])]
  · have := h.most
    rw [List.length_replicate] at this
    rw [hlen]; exact this

set_option maxRecDepth 100000 in
set_option maxHeartbeats 800000 in
theorem Of_any (A : Option Addr) (n c : Nat) (l : List UInt8) (w : World) (h : Bytes8 w A n c l) :
    Calls Tryz.prog 14 #[.slice A n c] w fun e w' => ∃ p g, e = .returned (.pointer (some ⟨p, 0, none⟩)) ∧ Img w' w.heap.size p g (l.take (whole n * 256)) ∧ Below w.heap.size w w' := by
  have hm := h.le
  obtain ⟨q, hq⟩ : ∃ q, q = whole n := ⟨_, rfl⟩
  have hq1 : q * 256 ≤ n := by rw [hq]; unfold whole; omega
  have hq2 : q ≤ 14400 := by rw [hq]; unfold whole; omega
  have N : ∀ x : Int, x = (q : Int) → Hid (Calls Tryz.prog 27 #[.int .i64 x] w fun e w' => ∃ p g, e = .returned (.tuple #[.pointer (some ⟨p, 0, none⟩), .int .i64 0]) ∧ Img w' w.heap.size p g (List.replicate (q * 256) 0) ∧ Below w.heap.size w w') := fun x hx => by rw [hx]; exact New_good _ w hq2
  have HL := Lib.hid h
  have hmin : min n (q * 256) = q * 256 := by omega
  rw [← hq]
  clear h
  by_cases hc : n / 256 ≤ 14400
  · have hc1 : (n : Int) / 256 ≤ 14400 := by omega
    have N1 := N ((n : Int) / 256) (by rw [hq]; unfold whole; omega)
    clear N hc hq
    go_enter Tryz.func14, Tryz.ntmps14
    go_wp2_with (first
      | (go_at_call 27; refine (N1.out).mono ?_; rintro e w1 ⟨p, g, rfl, HI, hb1⟩; have hc1 := HI.cell1; rw [List.length_replicate] at hc1; have HJ := Lib.hid HI; clear HI)
      | (refine wpList_copy_keep rfl (.tmp 16) (.tmp 17) _ _ rfl 5 Tryz.underlying22 size_u8 _ _ _ _ _ _ rfl rfl g 0 (u8s (List.replicate (q * 256) 0)) 5 HJ.out.hg (u8s (l.take (q * 256))) (by have h1 := HL.out.len; rw [u8s_length, List.length_take, h1]; show _ = min _ _; omega) (fun hp => ⟨rfl, ((HL.out.row.take (q * 256)).below hb1).src (by rw [u8s_take]; exact hp) |> fun ⟨ad, e, hh⟩ => ⟨ad, e, by rw [u8s_take] at hh; exact hh⟩⟩) (by have h1 := HL.out.len; rw [u8s_length, u8s_length, List.length_replicate, List.length_take]; omega) (u8s_one _) ?_; intro w2 HG2 hk2))
    go_ret
    exact ⟨p, g, rfl, img_fill HJ.out (by rw [HL.out.len]; exact hq1) hk2 HG2.out, hb1.trans (hk2.below HJ.out.bg)⟩
  · have hc1 : 14400 < (n : Int) / 256 := by omega
    have N1 := N 14400 (by rw [hq]; unfold whole; omega)
    clear N hc hq
    go_enter Tryz.func14, Tryz.ntmps14
    go_wp2_with (first
      | (go_at_call 27; refine (N1.out).mono ?_; rintro e w1 ⟨p, g, rfl, HI, hb1⟩; have hc1 := HI.cell1; rw [List.length_replicate] at hc1; have HJ := Lib.hid HI; clear HI)
      | (refine wpList_copy_keep rfl (.tmp 16) (.tmp 17) _ _ rfl 5 Tryz.underlying22 size_u8 _ _ _ _ _ _ rfl rfl g 0 (u8s (List.replicate (q * 256) 0)) 5 HJ.out.hg (u8s (l.take (q * 256))) (by have h1 := HL.out.len; rw [u8s_length, List.length_take, h1]; show _ = min _ _; omega) (fun hp => ⟨rfl, ((HL.out.row.take (q * 256)).below hb1).src (by rw [u8s_take]; exact hp) |> fun ⟨ad, e, hh⟩ => ⟨ad, e, by rw [u8s_take] at hh; exact hh⟩⟩) (by have h1 := HL.out.len; rw [u8s_length, u8s_length, List.length_replicate, List.length_take]; omega) (u8s_one _) ?_; intro w2 HG2 hk2))
    go_ret
    exact ⟨p, g, rfl, img_fill HJ.out (by rw [HL.out.len]; exact hq1) hk2 HG2.out, hb1.trans (hk2.below HJ.out.bg)⟩

end Go.Proofs.YtnjlganofjkpfaaGreat

/-
  Layer 3's example; strings of bytes.
-/
namespace Go.Proofs.YtnjlganofjkpfaaGreat
open Go.RowKit
set_option linter.unusedVariables false
set_option linter.unusedSimpArgs false

theorem blk_splice {L lc : List UInt8} {q kk j : Nat} (hL : L.length = q * 256) (hc : lc.length = 256) (hk : kk < q) (hj : j < q) : blk (splice L (kk * 256) lc) j = if j = kk then lc else blk L j := by
  apply List.ext_getElem
  · split
    · rw [blk_length (n := q) (by rw [length_splice _ _ _ (by omega), hL]) hj, hc]
    · rw [blk_length (n := q) (by rw [length_splice _ _ _ (by omega), hL]) hj, blk_length hL hj]
  · intro i h1 h2
    have hi : i < 256 := by
      rw [blk_length (n := q) (by rw [length_splice _ _ _ (by omega), hL]) hj] at h1
      exact h1
    have hl : (L.take (kk * 256)).length = kk * 256 := by rw [List.length_take]; omega
    split
    · next e =>
      subst e
      simp only [blk, splice, List.getElem_take, List.getElem_drop]
      rw [List.getElem_append_right (by omega), List.getElem_append_left (by omega)]
      congr 1
      omega
    · next e =>
      simp only [blk, splice, List.getElem_take, List.getElem_drop]
      by_cases hlt : j < kk
      · rw [List.getElem_append_left (by omega), List.getElem_take]
      · rw [List.getElem_append_right (by omega), List.getElem_append_right (by omega), List.getElem_drop]
        exact getElem_congr_idx (by omega)

end Go.Proofs.YtnjlganofjkpfaaGreat

/-
  Bytes in a block of their own: one byte read, one byte stored; the same for integers.
-/
namespace Go.Proofs.YtnjlganofjkpfaaGreat
open Go.RowKit
set_option linter.unusedVariables false
set_option linter.unusedSimpArgs false

theorem Own8.cell {w : World} {B g : Nat} {l : List UInt8} (h : Own8 w B g l) {j : Nat} (hj : j < l.length) : w.cell? ⟨g, j, none⟩ = some (.int .u8 (l[j].toNat : Int)) := by
  rw [cell_of_row w g j _ 5 (0, 0) h.blk]
  have := u8s_at l j hj
  simpa using this
theorem Own8.free {w : World} {B g : Nat} {l : List UInt8} (h : Own8 w B g l) (j : Nat) : w.frozen? ⟨g, j, none⟩ = false := frozen_of_row w g j _ 5 h.blk
theorem Own8.set {w : World} {B g : Nat} {l : List UInt8} (h : Own8 w B g l) (j v : Nat) (hv : v < 256) : Own8 (w.setCell ⟨g, j, none⟩ (.int .u8 (v : Int))) B g (l.set j (UInt8.ofNat v)) := by
  refine ⟨h.low, ?_⟩
  rw [heap_setCell_same w g j _ 5 _ h.blk]
  have e : u8s (l.set j (UInt8.ofNat v)) = (u8s l).set j (.int .u8 (v : Int)) := by
    simp only [u8s, List.map_set]
    rw [UInt8.toNat_ofNat', Nat.mod_eq_of_lt hv]
  rw [e]
  simp

/-- integers in a block of their own, from block B on, that may be written -/
structure OwnI (w : World) (B g : Nat) (l : List Int) : Prop where
  low : B ≤ g
  blk : w.heap[g]? = some (.cells (i64s l).toArray 3 (0, 0))
theorem OwnI.lt {w : World} {B g : Nat} {l : List Int} (h : OwnI w B g l) : g < w.heap.size := block_lt h.blk
theorem OwnI.below {w w' : World} {B C g : Nat} {l : List Int} (h : OwnI w B g l) (hb : Below C w w') (hg : g < C) : OwnI w' B g l := ⟨h.low, (hb.block g hg).trans h.blk⟩
theorem OwnI.later {w w' : World} {B g : Nat} {l : List Int} (h : OwnI w B g l) (hb : Below w.heap.size w w') : OwnI w' B g l := h.below hb h.lt
theorem OwnI.ints {w : World} {B g n : Nat} {l : List Int} (h : OwnI w B g l) (hn : l.length = n) (hl : n ≤ 9223372036854775807) : Ints w (some ⟨g, 0, none⟩) n n l := ⟨hn, Nat.le_refl _, hl, Row.of_block h.blk⟩
theorem OwnI.cell {w : World} {B g : Nat} {l : List Int} (h : OwnI w B g l) {j : Nat} (hj : j < l.length) : w.cell? ⟨g, j, none⟩ = some (.int .i64 l[j]) := by
  rw [cell_of_row w g j _ 3 (0, 0) h.blk]
  have := i64s_at l j hj
  simpa using this
theorem OwnI.free {w : World} {B g : Nat} {l : List Int} (h : OwnI w B g l) (j : Nat) : w.frozen? ⟨g, j, none⟩ = false := frozen_of_row w g j _ 3 h.blk
theorem OwnI.set {w : World} {B g : Nat} {l : List Int} (h : OwnI w B g l) (j : Nat) (v : Int) : OwnI (w.setCell ⟨g, j, none⟩ (.int .i64 v)) B g (l.set j v) := by
  refine ⟨h.low, ?_⟩
  rw [heap_setCell_same w g j _ 3 _ h.blk]
  have e : i64s (l.set j v) = (i64s l).set j (.int .i64 v) := by simp only [i64s, List.map_set]
  rw [e]
  simp
theorem zeros_i64 (n : Nat) : (madeCells #[Value.int .i64 0] n).toList = i64s (List.replicate n 0) := by
  apply List.ext_getElem
  · simp [madeCells, i64s]
  · intro i h1 h2
    have e : i % 1 = 0 := Nat.mod_one i
    simp [madeCells, i64s, e]
/-- integers just made -/
theorem own_zerosI {w : World} {base g n : Nat} (h : w.ownsRow base 3 1 (.slice (some ⟨g, 0, none⟩) n n) n (madeCells (Value.int .i64 0).cells (n * 1)).toList) (hB : base ≤ g) : OwnI w base g (List.replicate n 0) := by
  have h1 := ownsRow_whole h
  have e : (madeCells (Value.int .i64 0).cells (n * 1)).toList = i64s (List.replicate n 0) := by rw [Nat.mul_one]; exact zeros_i64 n
  rw [e] at h1
  exact ⟨hB, h1⟩

end Go.Proofs.YtnjlganofjkpfaaGreat
