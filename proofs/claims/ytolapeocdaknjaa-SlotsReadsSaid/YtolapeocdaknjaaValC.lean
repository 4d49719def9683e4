/-
  Layer 8's numbers of each kind; the values of all kinds.
-/
import Derived.Test.YtolapeocdaknjaaValB
import Derived.Laws.Rows
namespace Go.Proofs.Ytolapeocdaknjaa
open Go.RowKit
set_option linter.unusedVariables false
set_option linter.unusedSimpArgs false

/-- the numbers as cells -/
def numC (g o : Nat → Nat) : List (NumS × Int) → Nat → List Value
  | [], _ => []
  | p :: r, k => .pointer (some ⟨g k, o k, none⟩) :: .int .i64 (p.1.1 : Int) :: .int .i64 p.1.2.1 :: .int .i64 p.1.2.2 :: numC g o r (k + 1)

theorem numC_at {g o : Nat → Nat} : ∀ (l : List (NumS × Int)) (j k : Nat) (h : k < l.length), (numC g o l j)[k * 4]? = some (.pointer (some ⟨g (j + k), o (j + k), none⟩)) ∧ (numC g o l j)[k * 4 + 1]? = some (.int .i64 (l[k].1.1 : Int)) ∧
    (numC g o l j)[k * 4 + 2]? = some (.int .i64 l[k].1.2.1) ∧ (numC g o l j)[k * 4 + 3]? = some (.int .i64 l[k].1.2.2)
  | [], _, _, h => by cases h
  | p :: r, j, 0, _ => ⟨rfl, rfl, rfl, rfl⟩
  | p :: r, j, k + 1, h => by
    obtain ⟨h0, h1, h2, h3⟩ := numC_at r (j + 1) k (by simpa using h)
    rw [show j + 1 + k = j + (k + 1) by omega] at h0
    rw [show (k + 1) * 4 = k * 4 + 1 + 1 + 1 + 1 by omega]
    refine ⟨?_, ?_, ?_, ?_⟩
    · simp only [numC, List.getElem?_cons_succ]; exact h0
    · simp only [numC, List.getElem?_cons_succ]; exact h1
    · rw [show k * 4 + 1 + 1 + 1 + 1 + 2 = k * 4 + 2 + 1 + 1 + 1 + 1 by omega]; simp only [numC, List.getElem?_cons_succ]; exact h2
    · rw [show k * 4 + 1 + 1 + 1 + 1 + 3 = k * 4 + 3 + 1 + 1 + 1 + 1 by omega]; simp only [numC, List.getElem?_cons_succ]; exact h3

/-- a new row of numbers -/
theorem nums_new {W : World} {q n : Nat} {l : List (NumS × Int)} {g o : Nat → Nat} (h : W.heap[q]? = some (.cells (numC g o l 0).toArray 73 (0, 0))) (hl : l.length = n) (h0 : 0 < n) (hn : n ≤ 100) (hf : ∀ p ∈ l, fitN p.1) :
    NumsAt W q 0 n n l g o :=
  ⟨hl, h0, hn, Nat.le_refl _, by omega, block_lt h, hf, fun k hk => by
    obtain ⟨h1, h2, h3, h4⟩ := numC_at (g := g) (o := o) l 0 k hk
    rw [Nat.zero_add] at h1
    rw [Nat.zero_add]
    refine ⟨?_, ?_, ?_, ?_⟩
    · rw [cell_of_row W q _ _ _ _ h, List.getElem?_toArray]; exact h1
    · rw [cell_of_row W q _ _ _ _ h, List.getElem?_toArray]; exact h2
    · rw [cell_of_row W q _ _ _ _ h, List.getElem?_toArray]; exact h3
    · rw [cell_of_row W q _ _ _ _ h, List.getElem?_toArray]; exact h4⟩

theorem fit_zip {ns : List NumS} (h : ∀ p ∈ ns, fitN p) (vs : List Int) : ∀ p ∈ ns.zip vs, fitN p.1 := fun p hp => h p.1 (List.of_mem_zip hp).1

/-! ### the lists -/
def numRow (W : World) (q : Nat) (cs : Array Value) : Prop := W.heap[q]? = some (.cells cs 73 (0, 0))

theorem slot_any (w : World) (b : Nat) (hb : b < w.heap.size) :
    Calls Try.prog 27 #[.pointer (some ⟨b, 0, none⟩)] w fun e w' => ∃ q, w.heap.size ≤ q ∧ e = .returned (.slice (some ⟨q, 0, none⟩) 3 3) ∧
      numRow w' q #[.pointer (some ⟨b, 0, none⟩), .int .i64 8, .int .i64 1, .int .i64 14399, .pointer (some ⟨b, 1, none⟩), .int .i64 4, .int .i64 0, .int .i64 960, .pointer (some ⟨b, 2, none⟩), .int .i64 4, .int .i64 0, .int .i64 960] ∧ Below w.heap.size w w' := by
  go_enter Try.func27, Try.ntmps27
  go_wp2
  go_region
  all_goals go_wp2
  all_goals go_ret
  all_goals exact ⟨w.heap.size, Nat.le_refl _, rfl, heap_alloc_new w _, ((Below.refl _ _).alloc (Nat.le_refl _) _).drew⟩

theorem info_number : (Try.prog.info? 73).map (fun i => (i.zero, i.size)) = some (some (.agg #[.pointer none, .int .i64 0, .int .i64 0, .int .i64 0]), 4) := by kernel_rfl

theorem results_num {fn : Func} {p : Tmp} (h : fn.results = #[.cell p 73]) (tmps : Array Value) (w : World) (g : Nat) (a b c d : Value)
    (hp : tmps.getD p undef = .pointer (some ⟨g, 0, none⟩)) (hg : numRow w g #[a, b, c, d]) : (results fn tmps).run Try.prog w = .ok (.agg #[a, b, c, d]) w :=
  results_cell_row h tmps w g _ #[a, b, c, d] (0, 0) _ hp hg Try.underlying73 rfl (by kernel_rfl)

theorem numRow_set {w : World} {g : Nat} {a b c d : Value} (h : numRow w g #[a, b, c, d]) (a' b' c' d' : Value) :
    numRow ((((w.setCell ⟨g, 0, none⟩ a').setCell ⟨g, 1, none⟩ b').setCell ⟨g, 2, none⟩ c').setCell ⟨g, 3, none⟩ d') g #[a', b', c', d'] := by
  unfold numRow
  rw [heap_setCell_same _ g 3 _ _ _ (heap_setCell_same _ g 2 _ _ _ (heap_setCell_same _ g 1 _ _ _ (heap_setCell_same w g 0 _ _ _ h)))]
  rfl

/-! ### the values -/
def gM (s : Nat) : Nat → Nat := fun k => if k = 0 then s + 1 else s
def o0 : Nat → Nat := fun _ => 0
def oK : Nat → Nat := fun k => k
def mapB (b t : Int) : List UInt8 := bldP (mapS.zip [t, b])
def detB (m x d s : Int) : List UInt8 := bldP (detS.zip [m, x, d, s])
def slotB (b f i : Int) : List UInt8 := bldP (slotS.zip [b, f, i])
def rootB (n : Int) : List UInt8 := bldP (rootS.zip [n])
def countB (n : Int) : List UInt8 := bldP (countS.zip [n])

end Go.Proofs.Ytolapeocdaknjaa
