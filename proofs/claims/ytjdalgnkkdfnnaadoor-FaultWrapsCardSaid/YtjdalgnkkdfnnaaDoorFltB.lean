/-
  fault.enter: an error is visited for the first time.
-/
import Derived.Test.YtjdalgnkkdfnnaaDoorFltA
import Derived.Tactics2
import Derived.Defers
import Derived.Recover
import Derived.Laws.Pointers
namespace Go.Proofs.YtjdalgnkkdfnnaaDoor
open Go.RowKit
set_option linter.unusedVariables false
set_option linter.unusedSimpArgs false

/-- the deferred closure of enter, where nothing has gone wrong -/
theorem idle_enter (p : Addr) (w : World) :
    CallsD Tryd.prog 38 #[.pointer (some p)] .returning w fun e u' w' => e = .returned (.tuple #[]) ∧ u' = .returning ∧ w' = w := by
  refine callsD_of_wpS Tryd.func38 rfl fun c₀ cs hu => ?_
  apply wpS_seq
  apply wpS_region
  simp [wpOpsS, go_sem, recoverD, hu, Tryd.ntmps38, Exit.thenS]
  refine wpS_cond (t := false) (by simp [Act.eval, Array.replicate]) ?_
  simp only [Bool.false_eq_true, if_false]
  refine wpS_of_wp (wp_skip ?_)
  cases c₀
  simp_all [bodyPostS, results, Tryd.results38]

/-- all but block m stands as it stood; there may be more -/
structure KeptMap (m : Nat) (w w' : World) : Prop where
  os : w'.os = w.os
  tape : w'.tape = w.tape
  output : w'.output = w.output
  size : w.heap.size ≤ w'.heap.size
  block : ∀ k, k < w.heap.size → k ≠ m → w'.heap[k]? = w.heap[k]?

theorem KeptMap.grown {m : Nat} {w w' : World} (h : KeptMap m w w') : w.grownBy w' (some m) := ⟨h.os, h.tape, h.output, h.size, fun k hk hm => h.block k hk (fun e => hm (by rw [e]))⟩
theorem KeptMap.keeps {m : Nat} {w w' : World} {l : List Node} (h : KeptMap m w w') (hs : Seen w m l) : Keeps w w' := by
  obtain ⟨es, k, hb, _⟩ := hs.ex
  exact .of_grown h.grown (fun c e => by rw [hb] at e; cases e)
theorem KeptMap.below {m B : Nat} {w w' : World} (h : KeptMap m w w') (hB : B ≤ m) (hm : B ≤ w.heap.size) : Below B w w' := ⟨h.os, h.tape, h.output, h.size, fun k hk => h.block k (by omega) (by omega)⟩

theorem KeptMap.setCell {m : Nat} {w w' : World} (h : KeptMap m w w') {p : Addr} (hp : w.heap.size ≤ p.block) (v : Value) : KeptMap m w (w'.setCell p v) :=
  ⟨h.os, h.tape, h.output, by simpa [World.setCell] using h.size, fun k hk hm => by rw [Below.heap_setCell _ _ _ _ (by omega)]; exact h.block k hk hm⟩

set_option maxRecDepth 100000 in
theorem enter_new {w : World} {m : Nat} {x : Node} {l : List Node} (hs : Seen w m (x :: l)) (hg : Good w (x :: l)) :
    Calls Tryd.prog 23 #[.map (some m), val (x :: l)] w fun e w' => e = .returned (.bool true) ∧ KeptMap m w w' ∧ Seen w' m l ∧ count w' m = count w m + 1 := by
  obtain ⟨es, c, hb, hp⟩ := hs.ex
  have hp := hp (by simp)
  have hmf : ∀ (fn : Fn) (first cap : Array Value) (w : World), (Instr.makeFunc fn first cap).run Tryd.prog w = .ok (.func fn first cap) w := fun _ _ _ _ => rfl
  have hlt := block_lt hb
  have b0 : ∀ o, Below w.heap.size w (w.alloc o) := fun o => (Below.refl w.heap.size w).alloc (Nat.le_refl _) o
  have m0 : ∀ o, (w.alloc o).heap[m]? = some (.map es c) := fun o => ((b0 o).block m hlt).trans hb
  have L := run_seen (m0 (.cells #[.bool false] 4)) (fun e he => (hp e he).same (.of_below (b0 _))) (hg.below (b0 _)) (by simp)
  obtain ⟨w2, U, hc, hf, hk, hS⟩ : ∃ w2, (Instr.mapUpdate 52 (.map (some m)) (val (x :: l)) (.bool true)).run Tryd.prog (w.alloc (.cells #[.bool true] 4)) = .ok () w2 ∧ w2.cell? ⟨w.heap.size, 0, none⟩ = some (.bool true) ∧ w2.frozen? ⟨w.heap.size, 0, none⟩ = false ∧ KeptMap m w w2 ∧ (∀ w3, Keeps w w3 → w3.heap[m]? = w2.heap[m]? → Seen w3 m l ∧ count w3 m = count w m + 1) := by
    have U := run_enter (m0 (.cells #[.bool true] 4)) (fun e he => (hp e he).same (.of_below (b0 _))) (hg.below (b0 _)) (by simp)
    have hset := MapKept.heap_set (o' := .map (es.push { key := val (x :: l), val := .bool true, born := c }) (c + 1)) (m0 (.cells #[.bool true] 4))
    have hnew : (w.alloc (.cells #[.bool true] 4)).heap[w.heap.size]? = some (.cells #[.bool true] 4) := (MapKept.heap_alloc w _).1
    have h3 := (hset.2 w.heap.size (by omega)).trans hnew
    refine ⟨_, U, ?_, ?_, ⟨rfl, rfl, rfl, ?_, ?_⟩, ?_⟩
    · exact (World.cell?_of_block (w := w.alloc (.cells #[.bool true] 4)) (hset.2 w.heap.size (by omega))).trans (by rw [cell_of_row _ w.heap.size 0 _ _ _ hnew]; rfl)
    · exact Lib.frozen_of_heap h3 0
    · exact Nat.le_trans (b0 (.cells #[.bool true] 4)).size (Nat.le_of_eq (Array.size_setIfInBounds ..).symm)
    · intro k hk hm
      exact (hset.2 k hm).trans ((b0 _).block k hk)
    · intro w3 hk hm
      refine ⟨⟨_, _, hm.trans hset.1, fun hl e he => ?_⟩, by rw [count_of (hm.trans hset.1), count_of hb]; simp⟩
      rw [Array.toList_push, List.mem_append] at he
      rcases he with he | he
      · exact ((hp e he).tail).same hk
      · rw [List.mem_singleton] at he
        subst he
        exact (Past.own hg hl).same hk
  have hkk : Keeps w (w2.setCell ⟨w.heap.size, 0, none⟩ (.bool true)) := (hk.setCell (p := ⟨w.heap.size, 0, none⟩) (Nat.le_refl _) _).keeps hs
  have hSS := hS _ hkk (Below.heap_setCell _ _ _ _ (by show m ≠ w.heap.size; omega))
  have hK := hk.setCell (p := ⟨w.heap.size, 0, none⟩) (Nat.le_refl _) (.bool true)
  clear hS hkk hk
  generalize val (x :: l) = v at L U ⊢
  have HK := Lib.hid hK
  have HS := Lib.hid hSS
  clear hK hSS hs hg hb hp b0 m0
  go_enter_defers Tryd.func23, Tryd.ntmps23
  go_wp2
  refine leaves_cons (f := 38) (args := #[.pointer (some ⟨w.heap.size, 0, none⟩)]) (by simp) (by simp [go_sem]) ?_
  refine (idle_enter ⟨w.heap.size, 0, none⟩ _).mono ?_
  rintro e u' w'' ⟨rfl, rfl, rfl⟩
  have hlt2 : w.heap.size < w2.heap.size := cell_lt hc
  have hcc : (w2.setCell ⟨w.heap.size, 0, none⟩ (.bool true)).cell? ⟨w.heap.size, 0, none⟩ = some (.bool true) := World.cell?_setCell_same _ _ _ hc
  simp [Leaves, settle, results, Tryd.results23, go_sem, hlt2, hcc]
  exact ⟨HK.out, HS.out.1, HS.out.2⟩
end Go.Proofs.YtjdalgnkkdfnnaaDoor
