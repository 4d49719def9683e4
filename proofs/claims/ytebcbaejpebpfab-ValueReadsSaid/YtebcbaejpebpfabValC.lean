/-
  Layer 8's numbers of each kind; the values of all kinds.
-/
import Derived.Test.YtebcbaejpebpfabValB
import Derived.Laws.Rows
namespace Go.Proofs.Ytebcbaejpebpfab
open Go.RowKit
set_option linter.unusedVariables false
set_option linter.unusedSimpArgs false

/-- the numbers as cells -/
def numC (g o : Nat → Nat) : List (NumS × Int) → Nat → List Value
  | [], _ => []
  | p :: r, k => .pointer (some ⟨g k, o k, none⟩) :: .int .i64 (p.1.1 : Int) :: .int .i64 p.1.2.1 :: .int .i64 p.1.2.2 :: numC g o r (k + 1)

theorem numC_at {g o : Nat → Nat} : ∀ (l : List (NumS × Int)) (j k : Nat) (h : k < l.length), (numC g o l j)[k * 4]? = some (.pointer (some ⟨g (j + k), o (j + k), none⟩)) ∧ (numC g o l j)[k * 4 + 1]? = some (.int .i64 (l[k].1.1 : Int)) ∧
    (numC g o l j)[k * 4 + 2]? = some (.int .i64 l[k].1.2.1) ∧ (numC g o l j)[k * 4 + 3]? = some (.int .i64 l[k].1.2.2)
  | [], _, _, h => by cases h
  | p :: r, j, 0, _ => ⟨rfl, rfl, rfl, rfl⟩
  | p :: r, j, k + 1, h => by
    obtain ⟨h0, h1, h2, h3⟩ := numC_at r (j + 1) k (by simpa using h)
    rw [show j + 1 + k = j + (k + 1) by omega] at h0
    rw [show (k + 1) * 4 = k * 4 + 1 + 1 + 1 + 1 by omega]
    refine ⟨?_, ?_, ?_, ?_⟩
    · simp only [numC, List.getElem?_cons_succ]; exact h0
    · simp only [numC, List.getElem?_cons_succ]; exact h1
    · rw [show k * 4 + 1 + 1 + 1 + 1 + 2 = k * 4 + 2 + 1 + 1 + 1 + 1 by omega]; simp only [numC, List.getElem?_cons_succ]; exact h2
    · rw [show k * 4 + 1 + 1 + 1 + 1 + 3 = k * 4 + 3 + 1 + 1 + 1 + 1 by omega]; simp only [numC, List.getElem?_cons_succ]; exact h3

/-- a new row of numbers -/
theorem nums_new {W : World} {q n : Nat} {l : List (NumS × Int)} {g o : Nat → Nat} (h : W.heap[q]? = some (.cells (numC g o l 0).toArray 62 (0, 0))) (hl : l.length = n) (h0 : 0 < n) (hn : n ≤ 100) (hf : ∀ p ∈ l, fitN p.1) :
    NumsAt W q 0 n n l g o :=
  ⟨hl, h0, hn, Nat.le_refl _, by omega, block_lt h, hf, fun k hk => by
    obtain ⟨h1, h2, h3, h4⟩ := numC_at (g := g) (o := o) l 0 k hk
    rw [Nat.zero_add] at h1
    rw [Nat.zero_add]
    refine ⟨?_, ?_, ?_, ?_⟩
    · rw [cell_of_row W q _ _ _ _ h, List.getElem?_toArray]; exact h1
    · rw [cell_of_row W q _ _ _ _ h, List.getElem?_toArray]; exact h2
    · rw [cell_of_row W q _ _ _ _ h, List.getElem?_toArray]; exact h3
    · rw [cell_of_row W q _ _ _ _ h, List.getElem?_toArray]; exact h4⟩

theorem fit_zip {ns : List NumS} (h : ∀ p ∈ ns, fitN p) (vs : List Int) : ∀ p ∈ ns.zip vs, fitN p.1 := fun p hp => h p.1 (List.of_mem_zip hp).1

/-! ### the lists -/
def numRow (W : World) (q : Nat) (cs : Array Value) : Prop := W.heap[q]? = some (.cells cs 62 (0, 0))

theorem mapping_any (w : World) (b1 o1 b2 o2 : Nat) :
    Calls Try.prog 29 #[.pointer (some ⟨b1, o1, none⟩), .pointer (some ⟨b2, o2, none⟩)] w fun e w' => ∃ q, w.heap.size ≤ q ∧ e = .returned (.slice (some ⟨q, 0, none⟩) 2 2) ∧
      numRow w' q #[.pointer (some ⟨b2, o2, none⟩), .int .i64 3, .int .i64 0, .int .i64 16777215, .pointer (some ⟨b1, o1, none⟩), .int .i64 5, .int .i64 0, .int .i64 65535] ∧ Below w.heap.size w w' := by
  go_enter Try.func29, Try.ntmps29
  go_wp2
  go_ret
  exact ⟨w.heap.size, Nat.le_refl _, rfl, heap_alloc_new w _, (Below.refl _ _).alloc (Nat.le_refl _) _⟩

theorem detail_any (w : World) (b : Nat) (hb : b < w.heap.size) :
    Calls Try.prog 32 #[.pointer (some ⟨b, 0, none⟩)] w fun e w' => ∃ q, w.heap.size ≤ q ∧ e = .returned (.slice (some ⟨q, 0, none⟩) 4 4) ∧
      numRow w' q #[.pointer (some ⟨b, 0, none⟩), .int .i64 8, .int .i64 0, .int .i64 16384, .pointer (some ⟨b, 1, none⟩), .int .i64 8, .int .i64 0, .int .i64 2147483647, .pointer (some ⟨b, 2, none⟩), .int .i64 4, .int .i64 0, .int .i64 16777215, .pointer (some ⟨b, 3, none⟩), .int .i64 4, .int .i64 0, .int .i64 16777215] ∧ Below w.heap.size w w' := by
  go_enter Try.func32, Try.ntmps32
  go_wp2
  go_region
  all_goals go_wp2
  all_goals go_ret
  all_goals exact ⟨w.heap.size, Nat.le_refl _, rfl, heap_alloc_new w _, ((Below.refl _ _).alloc (Nat.le_refl _) _).drew⟩

theorem slot_any (w : World) (b : Nat) (hb : b < w.heap.size) :
    Calls Try.prog 33 #[.pointer (some ⟨b, 0, none⟩)] w fun e w' => ∃ q, w.heap.size ≤ q ∧ e = .returned (.slice (some ⟨q, 0, none⟩) 3 3) ∧
      numRow w' q #[.pointer (some ⟨b, 0, none⟩), .int .i64 8, .int .i64 1, .int .i64 14399, .pointer (some ⟨b, 1, none⟩), .int .i64 4, .int .i64 0, .int .i64 960, .pointer (some ⟨b, 2, none⟩), .int .i64 4, .int .i64 0, .int .i64 960] ∧ Below w.heap.size w w' := by
  go_enter Try.func33, Try.ntmps33
  go_wp2
  go_region
  all_goals go_wp2
  all_goals go_ret
  all_goals exact ⟨w.heap.size, Nat.le_refl _, rfl, heap_alloc_new w _, ((Below.refl _ _).alloc (Nat.le_refl _) _).drew⟩

theorem info_number : (Try.prog.info? 62).map (fun i => (i.zero, i.size)) = some (some (.agg #[.pointer none, .int .i64 0, .int .i64 0, .int .i64 0]), 4) := by kernel_rfl

theorem results_num {fn : Func} {p : Tmp} (h : fn.results = #[.cell p 62]) (tmps : Array Value) (w : World) (g : Nat) (a b c d : Value)
    (hp : tmps.getD p undef = .pointer (some ⟨g, 0, none⟩)) (hg : numRow w g #[a, b, c, d]) : (results fn tmps).run Try.prog w = .ok (.agg #[a, b, c, d]) w :=
  results_cell_row h tmps w g _ #[a, b, c, d] (0, 0) _ hp hg Try.underlying62 rfl (by kernel_rfl)

theorem numRow_set {w : World} {g : Nat} {a b c d : Value} (h : numRow w g #[a, b, c, d]) (a' b' c' d' : Value) :
    numRow ((((w.setCell ⟨g, 0, none⟩ a').setCell ⟨g, 1, none⟩ b').setCell ⟨g, 2, none⟩ c').setCell ⟨g, 3, none⟩ d') g #[a', b', c', d'] := by
  unfold numRow
  rw [heap_setCell_same _ g 3 _ _ _ (heap_setCell_same _ g 2 _ _ _ (heap_setCell_same _ g 1 _ _ _ (heap_setCell_same w g 0 _ _ _ h)))]
  rfl

theorem root_any (w : World) (b o : Nat) :
    Calls Try.prog 34 #[.pointer (some ⟨b, o, none⟩)] w fun e w' => e = .returned (.agg #[.pointer (some ⟨b, o, none⟩), .int .i64 4, .int .i64 1, .int .i64 14399]) ∧ Below w.heap.size w w' := by
  go_enter Try.func34, Try.ntmps34
  go_wp2
  refine bodyPost_ret (results_num Try.results34 _ _ w.heap.size _ _ _ _ rfl (heap_alloc_new w _)) rfl ?_
  exact ⟨rfl, (Below.refl _ _).alloc (Nat.le_refl _) _⟩
theorem count_any (w : World) (b o : Nat) :
    Calls Try.prog 35 #[.pointer (some ⟨b, o, none⟩)] w fun e w' => e = .returned (.agg #[.pointer (some ⟨b, o, none⟩), .int .i64 4, .int .i64 3, .int .i64 2147483647]) ∧ Below w.heap.size w w' := by
  go_enter Try.func35, Try.ntmps35
  go_wp2
  refine bodyPost_ret (results_num Try.results35 _ _ w.heap.size _ _ _ _ rfl (heap_alloc_new w _)) rfl ?_
  exact ⟨rfl, (Below.refl _ _).alloc (Nat.le_refl _) _⟩

/-! ### the values -/
def gM (s : Nat) : Nat → Nat := fun k => if k = 0 then s + 1 else s
def o0 : Nat → Nat := fun _ => 0
def oK : Nat → Nat := fun k => k
def mapB (b t : Int) : List UInt8 := bldP (mapS.zip [t, b])
def detB (m x d s : Int) : List UInt8 := bldP (detS.zip [m, x, d, s])
def slotB (b f i : Int) : List UInt8 := bldP (slotS.zip [b, f, i])
def rootB (n : Int) : List UInt8 := bldP (rootS.zip [n])
def countB (n : Int) : List UInt8 := bldP (countS.zip [n])

set_option maxHeartbeats 400000 in
theorem Map_any (w : World) (b t : Int) (hb : i64b b) (ht : i64b t) :
    Calls Try.prog 7 #[.int .i64 b, .int .i64 t] w fun e w' => e = .returned (.string ⟨(mapB b t).toArray⟩) ∧ Below w.heap.size w w' := by
  have MP := Lib.hid (fun W => mapping_any W w.heap.size 0 (w.heap.size + 1) 0)
  obtain ⟨h1, h2, h3⟩ := two_new8 w (.cells #[.int .i64 b] 3) (.cells #[.int .i64 t] 3)
  have BD : Hid (∀ (W : World) (q : Nat), w.heap.size + 2 ≤ q → Below (w.heap.size + 2) ((w.alloc (.cells #[.int .i64 b] 3)).alloc (.cells #[.int .i64 t] 3)) W → numRow W q #[.pointer (some ⟨w.heap.size + 1, 0, none⟩), .int .i64 3, .int .i64 0, .int .i64 16777215, .pointer (some ⟨w.heap.size, 0, none⟩), .int .i64 5, .int .i64 0, .int .i64 65535] →
      Calls Try.prog 28 #[.slice (some ⟨q, 0, none⟩) 2 2] W fun e w' => e = .returned (.string ⟨(mapB b t).toArray⟩) ∧ Below W.heap.size W w') := by
    intro W q hq hW hr
    refine build_any W q 0 2 2 (mapS.zip [t, b]) (gM w.heap.size) o0 (nums_new hr rfl (by omega) (by omega) (fit_zip mapS_fit _)) ?_ ?_
    · intro k hk
      have e1 : W.heap[w.heap.size + 1]? = _ := (hW.block _ (by omega)).trans h2
      have e0 : W.heap[w.heap.size]? = _ := (hW.block _ (by omega)).trans h1
      have hk' : k < 2 := hk
      rcases (show k = 0 ∨ k = 1 by omega) with rfl | rfl
      · exact (cell_of_row W (w.heap.size + 1) 0 _ _ _ e1).trans rfl
      · exact (cell_of_row W w.heap.size 0 _ _ _ e0).trans rfl
    · intro p hp
      simp only [mapS, List.zip_cons_cons, List.zip_nil_right, List.mem_cons, List.mem_nil_iff, or_false] at hp
      rcases hp with rfl | rfl
      · exact ht
      · exact hb
  have hz : ((w.alloc (.cells #[.int .i64 b] 3)).alloc (.cells #[.int .i64 t] 3)).heap.size = w.heap.size + 2 := by simp
  have H3 := Lib.hid h3
  have HZ := Lib.hid hz
  clear h1 h2 h3 hz hb ht
  go_enter Try.func7, Try.ntmps7
  go_wp2_with (first
    | (go_at_call 29; (with_reducible refine (MP.out _).mono ?_); rintro e w1 ⟨q, hq, rfl, hr, hb1⟩; rw [HZ.out] at hq hb1; have HQ := Lib.hid hq; have HR := Lib.hid hr; clear hq hr)
    | (go_at_call 28; (with_reducible refine (BD.out w1 q HQ.out hb1 HR.out).mono ?_); rintro e w2 ⟨rfl, hb2⟩))
  go_ret
  exact ⟨rfl, (H3.out.trans (hb1.mono (by omega))).trans (hb2.mono (Nat.le_trans (Nat.le_trans H3.out.size (by rw [HZ.out]; omega)) hb1.size))⟩

end Go.Proofs.Ytebcbaejpebpfab
