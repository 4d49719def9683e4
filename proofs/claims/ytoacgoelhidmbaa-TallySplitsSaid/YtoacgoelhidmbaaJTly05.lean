/-
  Joined: Info.
-/
import Derived.Test.YtoacgoelhidmbaaRows
import Derived.Laws.BytesArg
import Derived.Deep.OwnRows
import Derived.Test.YtoacgoelhidmbaaJTly01
/-
  The rows of the program's table of types that our texts ask; bytes as a string.
-/
namespace Go.Proofs.Ytoacgoelhidmbaa
open Go.RowKit
set_option linter.unusedVariables false
set_option linter.unusedSimpArgs false

theorem info_u8 : (Try.prog.info? 5).map (fun i => (i.zero, i.size, i.bytes)) = some (some (.int .u8 0), 1, 1) := by kernel_rfl

theorem size_u8 : (Try.prog.info? 5).map (·.size) = some 1 := by kernel_rfl

theorem info_i64 : (Try.prog.info? 3).map (fun i => (i.zero, i.size, i.bytes)) = some (some (.int .i64 0), 1, 8) := by kernel_rfl

theorem zeros_u8 (n : Nat) : (madeCells #[Value.int .u8 0] n).toList = u8s (List.replicate n 0) := by
  apply List.ext_getElem
  · simp [madeCells, u8s]
  · intro i h1 h2
    have e : i % 1 = 0 := Nat.mod_one i
    simp [madeCells, u8s, e]

/-- the string of bytes -/
theorem run_str {w : World} {A : Option Addr} {n c : Nat} {l : List UInt8} (h : Bytes8 w A n c l) :
    (convert 65 9 (.slice A n c)).run Try.prog w = .ok (.string ⟨l.toArray⟩) w := by
  cases A with
  | none =>
    have hl : l = [] := by
      match l, h.row with
      | [], _ => rfl
      | y :: r, hr => obtain ⟨ad, e, _⟩ := hr 0 _ rfl; cases e
    subst hl
    exact run_convert_bytes_nil w _ _ Try.underlying65 Try.underlying5 n c _ Try.underlying9
  | some ad =>
    have hl : (loadCells ad n).run Try.prog w = .ok ((l.map fun b => (b.toNat : Int)).map (Value.int .u8)).toArray w := by
      have := run_loadCells_list (P := Try.prog) w ad (u8s l) (fun j v hj => h.row.at_ hj)
      rw [u8s_length, h.len] at this
      rw [this]
      simp [u8s]
    rw [run_convert_bytes_string w _ _ _ _ n c Try.underlying65 Try.underlying5 Try.underlying9, run_bytesToString w _ n c _ hl, foldl_push_bytes]
    have e : ((l.map fun b => (b.toNat : Int)).map fun n => UInt8.ofNat n.toNat) = l := by
      rw [List.map_map]
      conv => rhs; rw [← List.map_id l]
      exact List.map_congr_left fun b _ => by simp
    rw [e]
    simp [ByteArray.empty, ByteArray.emptyWithCapacity]
    rfl

/-- bytes in a block of their own, from block B on, that may be written -/
structure Own8 (w : World) (B g : Nat) (l : List UInt8) : Prop where
  low : B ≤ g
  blk : w.heap[g]? = some (.cells (u8s l).toArray 5 (0, 0))

theorem Own8.lt {w : World} {B g : Nat} {l : List UInt8} (h : Own8 w B g l) : g < w.heap.size := block_lt h.blk
theorem Own8.below {w w' : World} {B C g : Nat} {l : List UInt8} (h : Own8 w B g l) (hb : Below C w w') (hg : g < C) : Own8 w' B g l := ⟨h.low, (hb.block g hg).trans h.blk⟩
theorem Own8.later {w w' : World} {B g : Nat} {l : List UInt8} (h : Own8 w B g l) (hb : Below w.heap.size w w') : Own8 w' B g l := h.below hb h.lt
theorem Own8.bytes {w : World} {B g n : Nat} {l : List UInt8} (h : Own8 w B g l) (hn : l.length = n) (hl : n ≤ 9223372036854775807) : Bytes8 w (some ⟨g, 0, none⟩) n n l := ⟨hn, Nat.le_refl _, hl, Row.of_block h.blk⟩

/-- bytes just made -/
theorem own_zeros {w : World} {base g n : Nat} (h : w.ownsRow base 5 1 (.slice (some ⟨g, 0, none⟩) n n) n (madeCells (Value.int .u8 0).cells (n * 1)).toList) (hB : base ≤ g) : Own8 w base g (List.replicate n 0) := by
  have h1 := ownsRow_whole h
  have e : (madeCells (Value.int .u8 0).cells (n * 1)).toList = u8s (List.replicate n 0) := by rw [Nat.mul_one]; exact zeros_u8 n
  rw [e] at h1
  exact ⟨hB, h1⟩

end Go.Proofs.Ytoacgoelhidmbaa
