/-
  Layer 3's block, Read, Write.
-/
import Derived.Test.YtadoclbalcecpaaImgA
namespace Go.Proofs.Ytadoclbalcecpaa
open Go.RowKit
set_option linter.unusedVariables false
set_option linter.unusedSimpArgs false

theorem block_nil (k : Int) (w : World) : Calls Try.prog 22 #[.pointer none, .int .i64 k] w fun e w' => e = .returned (.tuple #[.slice none 0 0, .int .i64 18]) ∧ w = w' := by
  go_enter Try.func22, Try.ntmps22
  go_wp2
  go_ret2
  exact ⟨rfl, rfl⟩

/-- there is no block k: n is what Blocks answers -/
theorem block_bad (p : Nat) (k : Int) (n : Nat) (w : World) (hB : Calls Try.prog 16 #[.pointer (some ⟨p, 0, none⟩)] w fun e w' => e = .returned (.int .i64 (n : Int)) ∧ w = w') (hk : k < 0 ∨ (n : Int) ≤ k) :
    Calls Try.prog 22 #[.pointer (some ⟨p, 0, none⟩), .int .i64 k] w fun e w' => e = .returned (.tuple #[.slice none 0 0, .int .i64 3]) ∧ w = w' := by
  have HB := Lib.hid hB
  clear hB
  by_cases h0 : k < 0
  · clear hk
    go_enter Try.func22, Try.ntmps22
    go_wp2_with (go_at_call 16; refine (HB.out).mono ?_; rintro e w' ⟨rfl, rfl⟩)
    go_ret2
    exact ⟨rfl, rfl⟩
  · have h1 : (n : Int) ≤ k := by omega
    clear hk
    go_enter Try.func22, Try.ntmps22
    go_wp2_with (go_at_call 16; refine (HB.out).mono ?_; rintro e w' ⟨rfl, rfl⟩)
    go_ret2
    exact ⟨rfl, rfl⟩

theorem block_img {B p g n : Nat} {L : List UInt8} (k : Nat) (w : World) (h : Img w B p g L) (hn : L.length = n * 256) (hk : k < n) :
    Calls Try.prog 22 #[.pointer (some ⟨p, 0, none⟩), .int .i64 (k : Int)] w fun e w' => e = .returned (.tuple #[.slice (some ⟨g, k * 256, none⟩) 256 (n * 256 - k * 256), .int .i64 0]) ∧ w = w' := by
  have HB := Lib.hid (Blocks_img w h hn)
  have h1 := h.cell1
  have hm := h.most
  rw [hn] at h1 hm
  clear h hn
  have e256 : (k + 1) * 256 - k * 256 = 256 := by omega
  go_enter Try.func22, Try.ntmps22
  go_wp2_with (go_at_call 16; refine (HB.out).mono ?_; rintro e w' ⟨rfl, rfl⟩)
  go_ret2
  refine ⟨?_, rfl⟩
  show Ending.returned (.tuple #[.slice (some ⟨g, k * 256, none⟩) ((k + 1) * 256 - k * 256) (n * 256 - k * 256), .int .i64 0]) = _
  rw [e256]

theorem Read_nil (k : Int) (w : World) : Calls Try.prog 14 #[.pointer none, .int .i64 k] w fun e w' => e = .returned (.tuple #[.slice none 0 0, .int .i64 18]) ∧ w = w' := by
  go_enter Try.func14, Try.ntmps14
  go_wp2_with (go_at_call 22; refine (block_nil _ _).mono ?_; rintro e w' ⟨rfl, rfl⟩)
  go_ret2
  exact ⟨rfl, rfl⟩

theorem Read_bad (p : Nat) (k : Int) (n : Nat) (w : World) (hB : Calls Try.prog 16 #[.pointer (some ⟨p, 0, none⟩)] w fun e w' => e = .returned (.int .i64 (n : Int)) ∧ w = w') (hk : k < 0 ∨ (n : Int) ≤ k) :
    Calls Try.prog 14 #[.pointer (some ⟨p, 0, none⟩), .int .i64 k] w fun e w' => e = .returned (.tuple #[.slice none 0 0, .int .i64 3]) ∧ w = w' := by
  have HB := Lib.hid (block_bad p k n w hB hk)
  clear hB hk
  go_enter Try.func14, Try.ntmps14
  go_wp2_with (go_at_call 22; refine (HB.out).mono ?_; rintro e w' ⟨rfl, rfl⟩)
  go_ret2
  exact ⟨rfl, rfl⟩

theorem Bytes8.part {w : World} {g n : Nat} {L : List UInt8} {B p : Nat} (h : Img w B p g L) (k : Nat) : Row w (some ⟨g, k, none⟩) (u8s (L.drop k)) := by
  have := h.bytes.row.drop k
  rw [u8s_drop] at this
  simpa [Addr.add_lit] using this

/-- block k of the bytes of an image -/
def blk (L : List UInt8) (k : Nat) : List UInt8 := (L.drop (k * 256)).take 256
theorem blk_length {L : List UInt8} {n k : Nat} (hn : L.length = n * 256) (hk : k < n) : (blk L k).length = 256 := by
  simp only [blk, List.length_take, List.length_drop]
  omega

set_option maxHeartbeats 800000 in
theorem Read_fresh {B p g n : Nat} {L : List UInt8} (k : Nat) (w : World) (h : Img w B p g L) (hn : L.length = n * 256) (hk : k < n) :
    Calls Try.prog 14 #[.pointer (some ⟨p, 0, none⟩), .int .i64 (k : Int)] w fun e w' => ∃ A, e = .returned (.tuple #[.slice A 256 256, .int .i64 0]) ∧ Bytes8 w' A 256 256 (blk L k) ∧ Below w.heap.size w w' ∧ Fresh w.heap.size A := by
  have HB := Lib.hid (block_img k w h hn hk)
  have HR : Hid (Row w (some ⟨g, k * 256, none⟩) (u8s (blk L k))) := by
    have := (Bytes8.part (n := n) h (k * 256)).take 256
    rwa [u8s_take] at this
  have HL := Lib.hid (blk_length hn hk)
  clear h hn
  go_enter Try.func14, Try.ntmps14
  go_wp2_with (first
    | (go_at_call 22; refine (HB.out).mono ?_; rintro e w' ⟨rfl, rfl⟩)
    | (at_builtin; go_must (refine wpList_append_row _ rfl _ _ 22 rfl w.heap.size 5 (.int .u8 0) 1 Try.underlying22 info_byte rfl (.slice none 0 0) 0 [] rfl (World.ownsRow_nil _ _ _ _) (Nat.le_refl _) (some ⟨g, k * 256, none⟩) (u8s (blk L k)) 256 _ rfl (by rw [u8s_length]; exact HL.out) HR.out (u8s_one _) (by omega) (by omega) ?_; intro v2 w2 hown2 hs2 hb2; obtain ⟨A2, c2, hv2, HB2⟩ := Bytes8.of_own hown2.out; rw [hv2]; have hc2 := HB2.cap; have hf2 : Hid (Fresh w.heap.size A2) := Fresh.of_own (by rw [← hv2]; exact hown2.out); clear hown2)))
  go_ret2
  exact ⟨A2, rfl, ⟨HL.out, Nat.le_refl _, by omega, HB2.row⟩, hb2, hf2.out⟩

theorem Read_img {B p g n : Nat} {L : List UInt8} (k : Nat) (w : World) (h : Img w B p g L) (hn : L.length = n * 256) (hk : k < n) :
    Calls Try.prog 14 #[.pointer (some ⟨p, 0, none⟩), .int .i64 (k : Int)] w fun e w' => ∃ A, e = .returned (.tuple #[.slice A 256 256, .int .i64 0]) ∧ Bytes8 w' A 256 256 (blk L k) ∧ Below w.heap.size w w' :=
  (Read_fresh k w h hn hk).mono fun e w' ⟨A, h1, h2, h3, _⟩ => ⟨A, h1, h2, h3⟩

/-- copy into a row that is known whole; no other block turns -/
theorem wpList_copy_keep {P : Program} {w : World} {ops : Array Oper} {rest : List Oper} {o : Oper} {a : Act} {Q : Exit → Act → World → Prop} (hgd : o.guard = none) (d s : Operand) (dT sT : TypeId)
    (ho : o.op = .call { callee := .builtin .copy, args := #[d, s], argTypes := #[dT, sT] }) (elem : TypeId) (hu : P.underlying dT = some (.slice elem)) (hsz : (P.info? elem).map (·.size) = some 1)
    (dp sp : Option Addr) (dLen dCap sLen sCap : Nat) (hd : a.eval d = .slice dp dLen dCap) (hs : a.eval s = .slice sp sLen sCap)
    (g off : Nat) (cur : List Value) (t : TypeId) (hg : w.heap[g]? = some (.cells cur.toArray t (0, 0))) (cs : List Value) (hn : cs.length = Nat.min sLen dLen)
    (hpos : 0 < cs.length → dp = some ⟨g, off, none⟩ ∧ ∃ ad, sp = some ad ∧ ∀ j v, cs[j]? = some v → w.cell? (ad.add j) = some v)
    (hfit : off + cs.length ≤ cur.length) (h1 : ∀ v ∈ cs, v.oneCell' = true)
    (h : ∀ w', Hid (w'.heap[g]? = some (.cells (splice cur off cs).toArray t (0, 0))) → Kept g w w' → wpList P ops Q rest (a.put o.dst (goInt cs.length)) w') :
    wpList P ops Q (o :: rest) a w := by
  by_cases h0 : cs.length = 0
  · obtain rfl : cs = [] := List.eq_nil_of_length_eq_zero h0
    refine wpList_copy_nothing hgd d s dT sT ho elem hu hsz dp sp dLen dCap sLen sCap hd hs (by simpa using hn.symm) ?_
    exact h w (show _ = _ by simpa [splice] using hg) (Kept.refl g w)
  · obtain ⟨rfl, ad, rfl, hsrc⟩ := hpos (by omega)
    refine wpList_copy_own hgd d s dT sT ho elem hu hsz g off dLen dCap ad sLen sCap hd hs cur.toArray t hg cs hn hsrc (by simpa using hfit) h1 ?_
    exact h _ (show _ = _ by simpa [splice] using setRow_heap w g _ _ t _ hg) ⟨rfl, rfl, rfl, by simp [World.setRow], fun k hk => setRow_other w g k _ hk⟩

theorem Write_nil (k : Int) (A : Option Addr) (m c : Nat) (w : World) : Calls Try.prog 12 #[.pointer none, .int .i64 k, .slice A m c] w fun e w' => e = .returned (.int .i64 18) ∧ w = w' := by
  go_enter Try.func12, Try.ntmps12
  go_wp2_with (go_at_call 22; refine (block_nil _ _).mono ?_; rintro e w' ⟨rfl, rfl⟩)
  go_ret
  exact ⟨rfl, rfl⟩

theorem Write_bad (p : Nat) (k : Int) (n : Nat) (A : Option Addr) (m c : Nat) (w : World) (hB : Calls Try.prog 16 #[.pointer (some ⟨p, 0, none⟩)] w fun e w' => e = .returned (.int .i64 (n : Int)) ∧ w = w') (hk : k < 0 ∨ (n : Int) ≤ k) :
    Calls Try.prog 12 #[.pointer (some ⟨p, 0, none⟩), .int .i64 k, .slice A m c] w fun e w' => e = .returned (.int .i64 3) ∧ w = w' := by
  have HB := Lib.hid (block_bad p k n w hB hk)
  clear hB hk
  go_enter Try.func12, Try.ntmps12
  go_wp2_with (go_at_call 22; refine (HB.out).mono ?_; rintro e w' ⟨rfl, rfl⟩)
  go_ret
  exact ⟨rfl, rfl⟩

theorem Write_size {B p g n : Nat} {L : List UInt8} (k : Nat) (A : Option Addr) (m c : Nat) (w : World) (h : Img w B p g L) (hn : L.length = n * 256) (hk : k < n) (hm : m ≠ 256) :
    Calls Try.prog 12 #[.pointer (some ⟨p, 0, none⟩), .int .i64 (k : Int), .slice A m c] w fun e w' => e = .returned (.int .i64 1) ∧ w = w' := by
  have HB := Lib.hid (block_img k w h hn hk)
  clear h hn
  have ht : ((m : Int) != 256) = true := by simp; omega
  clear hm
  go_enter Try.func12, Try.ntmps12
  go_wp2_with (go_at_call 22; refine (HB.out).mono ?_; rintro e w' ⟨rfl, rfl⟩)
  go_ret
  exact ⟨rfl, rfl⟩

set_option maxHeartbeats 800000 in
theorem Write_img {B p g n : Nat} {L l : List UInt8} (k : Nat) (A : Option Addr) (c : Nat) (w : World) (h : Img w B p g L) (hn : L.length = n * 256) (hk : k < n) (hl : Bytes8 w A 256 c l) :
    Calls Try.prog 12 #[.pointer (some ⟨p, 0, none⟩), .int .i64 (k : Int), .slice A 256 c] w fun e w' => e = .returned (.int .i64 0) ∧ Kept g w w' ∧ Img w' B p g (splice L (k * 256) l) := by
  have HB := Lib.hid (block_img k w h hn hk)
  have HI := Lib.hid h
  have HL := Lib.hid hl
  have HN := Lib.hid hn
  clear h hl hn
  go_enter Try.func12, Try.ntmps12
  go_wp2_with (first
    | (go_at_call 22; refine (HB.out).mono ?_; rintro e w' ⟨rfl, rfl⟩)
    | (refine wpList_copy_keep rfl (.tmp 21) (.tmp 22) _ _ rfl 5 Try.underlying22 size_byte _ _ _ _ _ _ rfl rfl g (k * 256) (u8s L) 5 HI.out.hg (u8s l) (by rw [u8s_length, HL.out.len]; rfl) (fun hp => ⟨rfl, HL.out.row.src hp⟩) (by have h1 := HL.out.len; have h2 := HN.out; rw [u8s_length, u8s_length]; omega) (u8s_one _) ?_; intro w2 HG2 hk2))
  go_ret
  have h1 := HL.out.len
  have h2 := HN.out
  have h3 := HI.out
  have hs : (splice L (k * 256) l).length = L.length := length_splice _ _ _ (by omega)
  refine ⟨rfl, hk2, h3.bp, h3.bg, h3.ne, ?_, ?_, ?_⟩
  · rw [hk2.block p h3.ne, h3.hp, hs]
  · have := HG2.out
    rw [this]
    congr 2
    simp [splice, u8s]
  · rw [hs]; exact h3.most

end Go.Proofs.Ytadoclbalcecpaa
