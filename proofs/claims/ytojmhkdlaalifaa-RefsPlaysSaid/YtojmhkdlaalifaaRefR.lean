/-
  Layer 12: the reference's counter; its New, Count, Add.
-/
import Derived.Test.YtojmhkdlaalifaaRefA
import Derived.Test.YtojmhkdlaalifaaMemF
namespace Go.Proofs.Ytojmhkdlaalifaa
open Go.RowKit
set_option linter.unusedVariables false
set_option linter.unusedSimpArgs false

/-- the reference's counter at block q: how many items, what was added -/
structure RRef12 (w : World) (B q : Nat) (v : Value) (N : Nat) (l : List Int) : Prop where
  bq : B ≤ q
  hq : w.heap[q]? = some (.cells #[.int .i64 (N : Int), v] 40 (0, 0))
  own : w.ownsRow B 3 1 v l.length (i64s l)
theorem RRef12.lt {w : World} {B q : Nat} {v : Value} {N : Nat} {l : List Int} (h : RRef12 w B q v N l) : q < w.heap.size := block_lt h.hq
theorem RRef12.same {w w' : World} {B q : Nat} {v : Value} {N : Nat} {l : List Int} (h : RRef12 w B q v N l) (hk : ∀ k, B ≤ k → k < w.heap.size → w'.heap[k]? = w.heap[k]?) : RRef12 w' B q v N l :=
  ⟨h.bq, (hk q h.bq h.lt).trans h.hq, own_kept h.own hk⟩
theorem RRef12.later {w w' : World} {B q : Nat} {v : Value} {N : Nat} {l : List Int} (h : RRef12 w B q v N l) (hb : Below w.heap.size w w') : RRef12 w' B q v N l := h.same fun k _ hk => hb.block k hk
theorem RRef12.kept {w w' : World} {B q g : Nat} {v : Value} {N : Nat} {l : List Int} (h : RRef12 w B q v N l) (hk : Kept g w w') (hg : g < B) : RRef12 w' B q v N l := h.same fun k hB _ => hk.block k (by omega)
theorem RRef12.cell0 {w : World} {B q : Nat} {v : Value} {N : Nat} {l : List Int} (h : RRef12 w B q v N l) : w.cell? ⟨q, 0, none⟩ = some (.int .i64 (N : Int)) := by
  rw [cell_of_row w q 0 _ _ _ h.hq]; rfl
theorem RRef12.cell1 {w : World} {B q : Nat} {v : Value} {N : Nat} {l : List Int} (h : RRef12 w B q v N l) : w.cell? ⟨q, 1, none⟩ = some v := by
  rw [cell_of_row w q 1 _ _ _ h.hq]; rfl
theorem RRef12.ints {w : World} {B q : Nat} {v : Value} {N : Nat} {l : List Int} (h : RRef12 w B q v N l) : ∃ A c, v = .slice A l.length c ∧ Ints w A l.length c l := Ints.of_own h.own

set_option maxRecDepth 100000 in
set_option maxHeartbeats 800000 in
theorem refNew12_bad (n : Int) (w : World) (hn : n < 0 ∨ 65536 < n) :
    Calls Try.prog 8 #[.int .i64 n] w fun e w' => e = .returned (.tuple #[.pointer none, .int .i64 2]) ∧ w = w' := by
  rcases hn with hn | hn
  all_goals go_enter Try.func8, Try.ntmps8
  all_goals go_wp2
  all_goals go_ret2
  all_goals exact ⟨rfl, rfl⟩

theorem build_ref12 (n : Int) (w : World) : (Instr.build 40 #[(0, .int .i64 n)]).run Try.prog w = .ok (.agg #[.int .i64 n, .slice none 0 0]) w := run_build w _ _ _ (by kernel_rfl)

set_option maxRecDepth 100000 in
set_option maxHeartbeats 800000 in
theorem refNew12_good (n : Nat) (w : World) (hn : n ≤ 65536) :
    Calls Try.prog 8 #[.int .i64 (n : Int)] w fun e w' => ∃ q, e = .returned (.tuple #[.pointer (some ⟨q, 0, none⟩), .int .i64 0]) ∧ RRef12 w' w.heap.size q (.slice none 0 0) n [] ∧ Below w.heap.size w w' := by
  have kb := build_ref12
  go_enter Try.func8, Try.ntmps8
  go_wp2
  go_ret2
  exact ⟨_, rfl, ⟨Nat.le_refl _, heap_alloc_new w _, World.ownsRow_nil _ _ _ _⟩, (Below.refl _ _).alloc (Nat.le_refl _) _⟩

/-- how often k stands in l -/
def occ12 (l : List Int) (k : Int) : Nat := l.count k
theorem occ12_succ {l : List Int} {i : Nat} (k : Int) (h : i < l.length) : occ12 (l.take (i + 1)) k = occ12 (l.take i) k + if l[i] = k then 1 else 0 := by
  unfold occ12
  rw [List.take_succ_eq_append_getElem h, List.count_append, List.count_singleton]
  by_cases e : l[i] = k <;> simp [e]
theorem occ12_le (l : List Int) (k : Int) : occ12 l k ≤ l.length := List.count_le_length

set_option maxRecDepth 100000 in
set_option maxHeartbeats 1600000 in
theorem refCount12_any {B q : Nat} {v : Value} {N : Nat} {l : List Int} (k : Int) (w : World) (h : RRef12 w B q v N l) (hl : l.length ≤ 1000000) :
    Calls Try.prog 13 #[.pointer (some ⟨q, 0, none⟩), .int .i64 k] w fun e w' => e = .returned (.int .i64 (occ12 l k : Int)) ∧ w = w' := by
  obtain ⟨A, c, rfl, hI⟩ := h.ints
  have hc1 := h.cell1
  have HI := Lib.hid hI
  have hcap := hI.cap
  have hmost := hI.most
  obtain ⟨n, hn⟩ : ∃ n, l.length = n := ⟨_, rfl⟩
  have FIN : Hid (occ12 (l.take n) k = occ12 l k) := by show _ = _; rw [← hn, List.take_length]
  rw [hn] at hc1 hl hcap
  clear h hI
  go_enter Try.func13, Try.ntmps13
  go_wp2
  go_loopw [5, 6] (fun s i wr => ∃ j : Nat, j ≤ n ∧ i = .int .i64 j ∧ s = .int .i64 (occ12 (l.take j) k : Int) ∧ w = wr) (fun _ i _ => n - (intOf i).toNat)
  case atStart => exact ⟨0, by omega, rfl, rfl, rfl⟩
  case round =>
    obtain ⟨j, hj, rfl, rfl, rfl⟩ := hrel
    by_cases hlt : j < n
    · obtain ⟨b, off, hA, _, hc⟩ := HI.out.row.lit (by rw [i64s_length]; omega)
      have hcj := hc j _ (i64s_at l j (by omega))
      subst hA
      have hS := occ12_succ k (l := l) (i := j) (by omega)
      have hb1 : occ12 (l.take j) k ≤ j := Nat.le_trans (occ12_le _ _) (by simp; omega)
      have HS := Lib.hid hS
      clear hS hc
      generalize hx : l[j]'(by omega) = x at *
      have HX := Lib.hid hx
      clear hx
      generalize hs1 : occ12 (l.take j) k = s1 at *
      clear hs1
      by_cases hxk : x = k
      · have ht : (x == k) = true := by simpa using hxk
        rw [if_pos hxk] at HS
        clear hxk
        go_wp2
        go_roundw
        case rel => exact ⟨j + 1, by omega, by simp, by rw [HS.out]; simp, trivial⟩
        case measure => simp [intOf]; omega
      · have ht : (x == k) = false := by simpa using hxk
        rw [if_neg hxk] at HS
        clear hxk
        go_wp2
        go_roundw
        case rel => exact ⟨j + 1, by omega, by simp, by rw [HS.out]; simp, trivial⟩
        case measure => simp [intOf]; omega
    · obtain rfl : j = n := by omega
      go_wp2
      go_ret
      exact ⟨by rw [FIN.out]; rfl, rfl⟩

set_option maxRecDepth 100000 in
set_option maxHeartbeats 800000 in
theorem refAdd12_bad {B q : Nat} {v : Value} {N : Nat} {l : List Int} (k : Int) (w : World) (h : RRef12 w B q v N l) (hk : k < 0 ∨ (N : Int) ≤ k) :
    Calls Try.prog 11 #[.pointer (some ⟨q, 0, none⟩), .int .i64 k] w fun e w' => e = .returned (.tuple #[.int .i64 0, .int .i64 3]) ∧ w = w' := by
  have hc0 := h.cell0
  clear h
  by_cases h0 : k < 0
  · have hd : decide (k < 0) = true := by simpa using h0
    clear hk
    go_enter Try.func11, Try.ntmps11
    go_wp2
    go_ret2
    exact ⟨rfl, rfl⟩
  · have hd : decide (k < 0) = false := by simpa using h0
    have hd2 : decide ((N : Int) ≤ k) = true := by simp; omega
    clear hk
    go_enter Try.func11, Try.ntmps11
    go_wp2
    go_ret2
    exact ⟨rfl, rfl⟩

/-- behind the append and the store -/
theorem RRef12.push {w w1 : World} {B q : Nat} {v v' : Value} {N : Nat} {l : List Int} {k : Int} (h : RRef12 w B q v N l) (hB : B ≤ w.heap.size) (hown : w1.ownsRow B 3 1 v' (l.length + 1) (i64s l ++ [.int .i64 k])) (hg : w.grownBy w1 v.ownBlock) :
    w1.cell? ⟨q, 1, none⟩ = some v ∧ w1.frozen? ⟨q, 1, none⟩ = false ∧ RRef12 (w1.setCell ⟨q, 1, none⟩ v') B q v' N (l ++ [k]) ∧ Below B w (w1.setCell ⟨q, 1, none⟩ v') := by
  have hne : ∀ (W : World) (u : Value) (m : Nat) (xs : List Value), W.ownsRow B 3 1 u m xs → (∃ cs fr, W.heap[q]? = some (.cells cs 40 fr)) → some q ≠ u.ownBlock := by
    intro W u m xs ho ⟨cs, fr, hh⟩ e
    obtain ⟨_, cur, hc⟩ := own_apart ho q e.symm
    rw [hh] at hc
    injection hc with hc
    injection hc with _ h2
    exact absurd h2 (by decide)
  have h1 : w1.heap[q]? = some (.cells #[.int .i64 (N : Int), v] 40 (0, 0)) := (hg.block q h.lt (hne w v _ _ h.own ⟨_, _, h.hq⟩)).trans h.hq
  have hne2 : some q ≠ v'.ownBlock := hne w1 v' _ _ hown ⟨_, _, h1⟩
  have hb : Below B w w1 := (Below.refl _ _).grown hg hB (fun j hj => (own_apart h.own j hj).1)
  refine ⟨by rw [cell_of_row w1 q 1 _ _ _ h1]; rfl, Lib.frozen_of_heap h1 1, ⟨h.bq, ?_, ?_⟩, hb.setCell (p := ⟨q, 1, none⟩) h.bq _⟩
  · have h2 : Blk w1 q 40 [.int .i64 (N : Int), v] := h1
    exact h2.set 1 v'
  · have e : i64s (l ++ [k]) = i64s l ++ [.int .i64 k] := by simp [i64s]
    rw [e, List.length_append]
    refine hown.kept (row := some q) ⟨rfl, rfl, rfl, by simp [World.setCell], fun j _ hj => Below.heap_setCell _ _ _ j (fun e => hj (by rw [e]))⟩ (.inr hne2.symm)

set_option maxRecDepth 100000 in
set_option maxHeartbeats 1600000 in
theorem refAdd12_good {B q : Nat} {v : Value} {N : Nat} {l : List Int} (k : Nat) (w : World) (h : RRef12 w B q v N l) (hB : B ≤ w.heap.size) (hk : k < N) (hl : l.length ≤ 100000) :
    Calls Try.prog 11 #[.pointer (some ⟨q, 0, none⟩), .int .i64 (k : Int)] w fun e w' => ∃ v', e = .returned (.tuple #[.int .i64 (occ12 (l ++ [(k : Int)]) k : Int), .int .i64 0]) ∧ RRef12 w' B q v' N (l ++ [(k : Int)]) ∧ Below B w w' := by
  have hc0 := h.cell0
  have hc1 := h.cell1
  have HR := Lib.hid h
  have HO : Hid (w.ownsRow B 3 1 v l.length (i64s l)) := h.own
  have CO : Hid (∀ W v', RRef12 W B q v' N (l ++ [(k : Int)]) → Calls Try.prog 13 #[.pointer (some ⟨q, 0, none⟩), .int .i64 (k : Int)] W fun e w' => e = .returned (.int .i64 (occ12 (l ++ [(k : Int)]) k : Int)) ∧ W = w') := fun W v' hW => refCount12_any (k : Int) W hW (by simp; omega)
  clear h
  generalize hL2 : l ++ [(k : Int)] = L2 at *
  have HL2 := Lib.hid hL2
  clear hL2
  have hd2 : decide ((N : Int) ≤ (k : Int)) = false := by simp; omega
  have hd3 : decide (N ≤ k) = false := by simp; omega
  go_enter Try.func11, Try.ntmps11
  go_wp2_with (first
    | (at_builtin; go_must (refine wpList_append_newG w rfl _ _ 22 rfl B 3 3 (.int .i64 0) 8 Try.underlying22 info_i64 rfl v l.length (i64s l) rfl HO.out hB [.int .i64 (k : Int)] 1 1 rfl rfl (by simp [Value.oneCell']) (by omega) (by omega) ?_; intro v2 w2 hown2 hg2; obtain ⟨A2, c2, hv2, _, _⟩ := ownsRow_form hown2.out; subst hv2; obtain ⟨c1, f1, HN2, hb2⟩ := HR.out.push hB hown2.out hg2.out; rw [HL2.out] at HN2; clear hown2 hg2))
    | (go_at_call 13; (with_reducible refine (CO.out _ _ (by assumption)).mono ?_); rintro e w3 ⟨rfl, rfl⟩))
  go_ret2
  exact ⟨_, rfl, HN2, hb2⟩

end Go.Proofs.Ytojmhkdlaalifaa
