/-
  Layer 12's counter in memory; New, own, Len, has, Count, Add.
-/
import Derived.Test.YtojmhkdlaalifaaChecked
import Derived.Test.YtojmhkdlaalifaaMemL
import Derived.Test.YtojmhkdlaalifaaNewer
import Derived.Test.YtojmhkdlaalifaaImgA
import Derived.Test.YtojmhkdlaalifaaRefMath
namespace Go.Proofs.Ytojmhkdlaalifaa
open Go.RowKit
set_option linter.unusedVariables false
set_option linter.unusedSimpArgs false

/-- a counter at block p, its counts in block g -/
structure Cnt (w : World) (B p g : Nat) (L : List Int) : Prop where
  bp : B ≤ p
  ne : p ≠ g
  hp : w.heap[p]? = some (.cells #[.pointer (some ⟨p, 0, none⟩), .slice (some ⟨g, 0, none⟩) L.length L.length] 46 (0, 0))
  hg : OwnI w B g L
  most : L.length ≤ 65536

theorem Cnt.plt {w : World} {B p g : Nat} {L : List Int} (h : Cnt w B p g L) : p < w.heap.size := block_lt h.hp
theorem Cnt.glt {w : World} {B p g : Nat} {L : List Int} (h : Cnt w B p g L) : g < w.heap.size := h.hg.lt
theorem Cnt.below {w w' : World} {B C p g : Nat} {L : List Int} (h : Cnt w B p g L) (hb : Below C w w') (h1 : p < C) (h2 : g < C) : Cnt w' B p g L :=
  ⟨h.bp, h.ne, (hb.block p h1).trans h.hp, h.hg.below hb h2, h.most⟩
theorem Cnt.later {w w' : World} {B p g : Nat} {L : List Int} (h : Cnt w B p g L) (hb : Below w.heap.size w w') : Cnt w' B p g L := h.below hb h.plt h.glt
theorem Cnt.kept {w w' : World} {B p g q : Nat} {L : List Int} (h : Cnt w B p g L) (hk : Kept q w w') (h1 : p ≠ q) (h2 : g ≠ q) : Cnt w' B p g L :=
  ⟨h.bp, h.ne, (hk.block p h1).trans h.hp, ⟨h.hg.low, (hk.block g h2).trans h.hg.blk⟩, h.most⟩
theorem Cnt.cell0 {w : World} {B p g : Nat} {L : List Int} (h : Cnt w B p g L) : w.cell? ⟨p, 0, none⟩ = some (.pointer (some ⟨p, 0, none⟩)) := by
  rw [cell_of_row w p 0 _ _ _ h.hp]; rfl
theorem Cnt.cell1 {w : World} {B p g : Nat} {L : List Int} (h : Cnt w B p g L) : w.cell? ⟨p, 1, none⟩ = some (.slice (some ⟨g, 0, none⟩) L.length L.length) := by
  rw [cell_of_row w p 1 _ _ _ h.hp]; rfl
theorem Cnt.ints {w : World} {B p g : Nat} {L : List Int} (h : Cnt w B p g L) : Ints w (some ⟨g, 0, none⟩) L.length L.length L := h.hg.ints rfl (by have := h.most; omega)

/-- what own tells of a pointer: nil, a Refs that New did not return, a counter -/
def Own12 (w : World) (v : Value) (A : Option Addr) (n : Nat) (L : List Int) : Prop :=
  (v = .pointer none ∧ A = none ∧ n = 0 ∧ L = []) ∨ (∃ p, v = .pointer (some ⟨p, 0, none⟩) ∧ w.cell? ⟨p, 0, none⟩ = some (.pointer none) ∧ A = none ∧ n = 0 ∧ L = []) ∨
  (∃ B p g, v = .pointer (some ⟨p, 0, none⟩) ∧ A = some ⟨g, 0, none⟩ ∧ n = L.length ∧ Cnt w B p g L)
theorem Own12.below {w w' : World} {v : Value} {A : Option Addr} {n : Nat} {L : List Int} (h : Own12 w v A n L) (hb : Below w.heap.size w w') : Own12 w' v A n L := by
  rcases h with h | ⟨p, h1, h2, h3⟩ | ⟨B, p, g, h1, h2, h3, h4⟩
  · exact .inl h
  · exact .inr (.inl ⟨p, h1, (hb.cell (p := ⟨p, 0, none⟩) (cell_lt h2)).trans h2, h3⟩)
  · exact .inr (.inr ⟨B, p, g, h1, h2, h3, h4.later hb⟩)
theorem Own12.ints {w : World} {v : Value} {A : Option Addr} {n : Nat} {L : List Int} (h : Own12 w v A n L) : Ints w A n n L := by
  rcases h with ⟨_, rfl, rfl, rfl⟩ | ⟨p, _, _, rfl, rfl, rfl⟩ | ⟨B, p, g, _, rfl, rfl, h4⟩
  · exact Ints.nil w
  · exact Ints.nil w
  · exact h4.ints
theorem Own12.most {w : World} {v : Value} {A : Option Addr} {n : Nat} {L : List Int} (h : Own12 w v A n L) : n ≤ 65536 := by
  rcases h with ⟨_, rfl, rfl, rfl⟩ | ⟨p, _, _, rfl, rfl, rfl⟩ | ⟨B, p, g, _, rfl, rfl, h4⟩
  · omega
  · omega
  · exact h4.most
theorem Own12.of_cnt {w : World} {B p g : Nat} {L : List Int} (h : Cnt w B p g L) : Own12 w (.pointer (some ⟨p, 0, none⟩)) (some ⟨g, 0, none⟩) L.length L := .inr (.inr ⟨B, p, g, rfl, rfl, rfl, h⟩)
theorem Own12.none_ (w : World) : Own12 w (.pointer none) none 0 [] := .inl ⟨rfl, rfl, rfl, rfl⟩
theorem Own12.zero {w : World} {p : Nat} (h : w.cell? ⟨p, 0, none⟩ = some (.pointer none)) : Own12 w (.pointer (some ⟨p, 0, none⟩)) none 0 [] := .inr (.inl ⟨p, rfl, h, rfl, rfl, rfl⟩)

theorem neq_same12 (ad : Addr) (w : World) : (binOp .neq 23 (.pointer (some ad)) (.pointer (some ad))).run Try.prog w = .ok (.bool false) w := by
  obtain ⟨j, hj⟩ : ∃ j, Try.prog.info? 46 = some j := Option.isSome_iff_exists.1 (by kernel_rfl)
  exact Lib.run_neq_ptr_same w ad Try.underlying23 hj
theorem neq_nil_ptr12 (ad : Addr) (w : World) : (binOp .neq 23 (.pointer none) (.pointer (some ad))).run Try.prog w = .ok (.bool true) w := by
  have h : ∀ d : Nat, (Op.equalIn (d + 1) 23 (.pointer none) (.pointer (some ad))).run Try.prog w = .ok false w := fun d => by
    simp [Op.equalIn, run_underlying Try.underlying23]
  simp only [binOp]
  simp [Op.equal, Op.maxDepth, h 9999]

set_option maxRecDepth 100000 in
theorem own12_any {v : Value} {A : Option Addr} {n : Nat} {L : List Int} (w : World) (h : Own12 w v A n L) : Calls Try.prog 24 #[v] w fun e w' => e = .returned (.slice A n n) ∧ w = w' := by
  rcases h with ⟨rfl, rfl, rfl, rfl⟩ | ⟨p, rfl, h0, rfl, rfl, rfl⟩ | ⟨B, p, g, rfl, rfl, rfl, h⟩
  · go_enter Try.func24, Try.ntmps24
    go_wp2
    go_ret
    exact ⟨rfl, rfl⟩
  · have kn := neq_nil_ptr12 ⟨p, 0, none⟩ w
    go_enter Try.func24, Try.ntmps24
    go_wp2
    go_ret
    exact ⟨rfl, rfl⟩
  · have h0 := h.cell0
    have h1 := h.cell1
    have kn := neq_same12 ⟨p, 0, none⟩ w
    clear h
    go_enter Try.func24, Try.ntmps24
    go_wp2
    go_ret
    exact ⟨rfl, rfl⟩

set_option maxRecDepth 100000 in
theorem Len12_any {v : Value} {A : Option Addr} {n : Nat} {L : List Int} (w : World) (h : Own12 w v A n L) : Calls Try.prog 14 #[v] w fun e w' => e = .returned (.int .i64 (n : Int)) ∧ w = w' := by
  have O := Lib.hid (own12_any w h)
  clear h
  go_enter Try.func14, Try.ntmps14
  go_wp2_with (go_at_call 24; (with_reducible refine (O.out).mono ?_); rintro e w' ⟨rfl, rfl⟩)
  go_ret
  exact ⟨rfl, rfl⟩

/-- is there an item k? -/
def hasB12 (n : Nat) (k : Int) : Bool := decide (0 ≤ k) && decide (k < (n : Int))
theorem hasB12_yes {n : Nat} {k : Int} (h : hasB12 n k = true) : 0 ≤ k ∧ k < (n : Int) := by simpa [hasB12] using h
theorem hasB12_no {n : Nat} {k : Int} (h : hasB12 n k = false) : k < 0 ∨ (n : Int) ≤ k := by
  have : ¬ (0 ≤ k ∧ k < (n : Int)) := fun hh => by rw [show hasB12 n k = true by simpa [hasB12] using hh] at h; cases h
  omega

set_option maxRecDepth 100000 in
theorem has12_any {v : Value} {A : Option Addr} {n : Nat} {L : List Int} (k : Int) (w : World) (h : Own12 w v A n L) : Calls Try.prog 23 #[v, .int .i64 k] w fun e w' => e = .returned (.bool (hasB12 n k)) ∧ w = w' := by
  have O := Lib.hid (Len12_any w h)
  have hn := h.most
  clear h
  obtain ⟨r, hr⟩ : ∃ r, hasB12 n k = r := ⟨_, rfl⟩
  rw [hr]
  unfold hasB12 at hr
  by_cases h0 : 0 ≤ k
  · have hd : decide (0 ≤ k) = true := by simpa using h0
    rw [hd, Bool.true_and] at hr
    go_enter Try.func23, Try.ntmps23
    go_wp2_with (go_at_call 14; (with_reducible refine (O.out).mono ?_); rintro e w' ⟨rfl, rfl⟩)
    go_ret
    exact ⟨rfl, rfl⟩
  · have hd : decide (0 ≤ k) = false := by simpa using h0
    rw [hd, Bool.false_and] at hr
    subst hr
    go_enter Try.func23, Try.ntmps23
    go_wp2_with (go_at_call 14; (with_reducible refine (O.out).mono ?_); rintro e w' ⟨rfl, rfl⟩)
    go_ret
    exact ⟨rfl, rfl⟩

/-- the count of item k, or 0 -/
def cntAt12 (L : List Int) (k : Int) : Int := if hasB12 L.length k then L.getD k.toNat 0 else 0

set_option maxRecDepth 100000 in
theorem Count12_any {v : Value} {A : Option Addr} {n : Nat} {L : List Int} (k : Int) (w : World) (h : Own12 w v A n L) : Calls Try.prog 12 #[v, .int .i64 k] w fun e w' => e = .returned (.int .i64 (cntAt12 L k)) ∧ w = w' := by
  have O := Lib.hid (has12_any k w h)
  have hl := h.ints.len
  unfold cntAt12
  rw [hl]
  cases hb : hasB12 n k with
  | false =>
    rw [hb] at O
    clear h hl hb
    rw [if_neg (by decide)]
    go_enter Try.func12, Try.ntmps12
    go_wp2_with (go_at_call 23; (with_reducible refine (O.out).mono ?_); rintro e w' ⟨rfl, rfl⟩)
    go_ret
    exact ⟨rfl, rfl⟩
  | true =>
    rw [hb] at O
    rw [if_pos rfl]
    obtain ⟨h1, h2⟩ := hasB12_yes hb
    rcases h with ⟨rfl, rfl, rfl, rfl⟩ | ⟨p, rfl, _, rfl, rfl, rfl⟩ | ⟨B, p, g, rfl, rfl, rfl, h⟩
    · omega
    · omega
    · obtain ⟨j, rfl⟩ := Int.eq_ofNat_of_zero_le h1
      have hj : j < L.length := by omega
      have c1 := h.cell1
      have cj := h.hg.cell hj
      have hm := h.most
      have e1 : L.getD (j : Int).toNat 0 = L[j] := by simp [List.getD_eq_getElem?_getD, hj]
      rw [e1]
      generalize L[j] = x at *
      clear h hb hl h1 h2 e1
      generalize L.length = n at *
      go_enter Try.func12, Try.ntmps12
      go_wp2_with (go_at_call 23; (with_reducible refine (O.out).mono ?_); rintro e w' ⟨rfl, rfl⟩)
      go_ret
      exact ⟨rfl, rfl⟩

set_option maxRecDepth 100000 in
theorem Add12_nil (k : Int) (w : World) : Calls Try.prog 10 #[.pointer none, .int .i64 k] w fun e w' => e = .returned (.tuple #[.int .i64 0, .int .i64 18]) ∧ w = w' := by
  go_enter Try.func10, Try.ntmps10
  go_wp2
  go_ret2
  exact ⟨rfl, rfl⟩

set_option maxRecDepth 100000 in
theorem Add12_bad {A : Option Addr} {n p : Nat} {L : List Int} (k : Int) (w : World) (h : Own12 w (.pointer (some ⟨p, 0, none⟩)) A n L) (hk : hasB12 n k = false) : Calls Try.prog 10 #[.pointer (some ⟨p, 0, none⟩), .int .i64 k] w fun e w' => e = .returned (.tuple #[.int .i64 0, .int .i64 3]) ∧ w = w' := by
  have O := Lib.hid (has12_any k w h)
  rw [hk] at O
  clear h hk
  go_enter Try.func10, Try.ntmps10
  go_wp2_with (go_at_call 23; (with_reducible refine (O.out).mono ?_); rintro e w' ⟨rfl, rfl⟩)
  go_ret2
  exact ⟨rfl, rfl⟩

set_option maxRecDepth 100000 in
set_option maxHeartbeats 800000 in
theorem Add12_good {B p g : Nat} {L : List Int} (k : Nat) (w : World) (h : Cnt w B p g L) (hk : k < L.length) (hx : -9223372036854775808 ≤ L[k] ∧ L[k] ≤ 9223372036854775806) :
    Calls Try.prog 10 #[.pointer (some ⟨p, 0, none⟩), .int .i64 (k : Int)] w fun e w' => e = .returned (.tuple #[.int .i64 (L[k] + 1), .int .i64 0]) ∧ Cnt w' B p g (L.set k (L[k] + 1)) ∧ Kept g w w' := by
  have O := Lib.hid (has12_any k w (Own12.of_cnt h))
  rw [show hasB12 L.length (k : Int) = true by simp [hasB12]; omega] at O
  have c1 := h.cell1
  have ck := h.hg.cell hk
  have fk := h.hg.free k
  have hm := h.most
  have hne := h.ne
  have FIN : Hid (Cnt (w.setCell ⟨g, k, none⟩ (.int .i64 (L[k] + 1))) B p g (L.set k (L[k] + 1)) ∧ Kept g w (w.setCell ⟨g, k, none⟩ (.int .i64 (L[k] + 1)))) := by
    refine ⟨⟨h.bp, h.ne, ?_, h.hg.set k _, by rw [List.length_set]; exact h.most⟩, ⟨rfl, rfl, rfl, ?_, fun q hq => Below.heap_setCell _ _ _ q hq⟩⟩
    · rw [heap_setCell_other w ⟨g, k, none⟩ p _ hne, List.length_set]; exact h.hp
    · simp [World.setCell]
  have c1' : (w.setCell ⟨g, k, none⟩ (.int .i64 (L[k] + 1))).cell? ⟨p, 1, none⟩ = some (.slice (some ⟨g, 0, none⟩) L.length L.length) := by
    have := FIN.out.1.cell1
    rwa [List.length_set] at this
  have ck' : (w.setCell ⟨g, k, none⟩ (.int .i64 (L[k] + 1))).cell? ⟨g, k, none⟩ = some (.int .i64 (L[k] + 1)) := by
    have := FIN.out.1.hg.cell (j := k) (by rw [List.length_set]; exact hk)
    simpa using this
  have hwr : wrap64 (L[k] + 1) = L[k] + 1 := by unfold wrap64; omega
  generalize hL2 : L.set k (L[k] + 1) = L2 at *
  clear hL2 h
  generalize hxx : L[k] = x at *
  clear hxx
  generalize L.length = n at *
  go_enter Try.func10, Try.ntmps10
  go_wp2_with (go_at_call 23; (with_reducible refine (O.out).mono ?_); rintro e w' ⟨rfl, rfl⟩)
  go_ret2
  exact ⟨rfl, FIN.out⟩

set_option maxRecDepth 100000 in
set_option maxHeartbeats 800000 in
theorem New12_bad (n : Int) (w : World) (hn : n < 0 ∨ 65536 < n) :
    Calls Try.prog 7 #[.int .i64 n] w fun e w' => e = .returned (.tuple #[.pointer none, .int .i64 2]) ∧ w = w' := by
  rcases hn with hn | hn
  all_goals go_enter Try.func7, Try.ntmps7
  all_goals go_wp2
  all_goals go_ret2
  all_goals exact ⟨rfl, rfl⟩

theorem build_refs (A : Option Addr) (n c : Nat) (w : World) : (Instr.build 46 #[(1, .slice A n c)]).run Try.prog w = .ok (.agg #[.pointer none, .slice A n c]) w := run_build w _ _ _ (by kernel_rfl)

set_option maxRecDepth 100000 in
set_option maxHeartbeats 800000 in
theorem New12_good (n : Nat) (w : World) (hn : n ≤ 65536) :
    Calls Try.prog 7 #[.int .i64 (n : Int)] w fun e w' => ∃ p g, e = .returned (.tuple #[.pointer (some ⟨p, 0, none⟩), .int .i64 0]) ∧ Cnt w' w.heap.size p g (List.replicate n 0) ∧ Below w.heap.size w w' := by
  obtain ⟨i0, hi0, hz0, hz1, hz2⟩ := info_parts info_i64
  have kb := build_refs
  go_enter Try.func7, Try.ntmps7
  go_wp2_with (at_make; go_must (refine wpList_make_full w rfl (.tmp 11) (.tmp 11) _ rfl w.heap.size 3 i0 _ 1 Try.underlying22 hi0 hz0 hz1 .i64 .i64 _ _ n rfl rfl rfl rfl (by rw [hz2]; omega) (by simp only [maxLen]; omega) (Nat.le_refl _) ?_; intro w1 hown1 hg1; have hb1 := below_of_grown hg1 (by simp); have HO1 := Lib.hid hown1; clear hown1))
  go_ret2
  have HI := own_zerosI HO1.out (Nat.le_refl _)
  have hl := HI.lt
  refine ⟨_, _, rfl, ⟨hb1.size, by omega, ?_, HI.below (Below.alloc (Below.refl w1.heap.size w1) (Nat.le_refl _) _) hl, by rw [List.length_replicate]; exact hn⟩, hb1.alloc hb1.size _⟩
  rw [List.length_replicate]
  exact heap_alloc_new w1 _

end Go.Proofs.Ytojmhkdlaalifaa
