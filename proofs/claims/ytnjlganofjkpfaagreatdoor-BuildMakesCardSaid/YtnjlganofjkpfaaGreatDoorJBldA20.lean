/-
  Joined: FltK.
-/
import Derived.LoopTactic
import Derived.OwnWalk
import Derived.Test.YtnjlganofjkpfaaGreatDoorJBldA16
import Derived.Test.YtnjlganofjkpfaaGreatDoorJBldA03
import Derived.Test.YtnjlganofjkpfaaGreatDoorJBldA10
/-
  fault.Blocks.
-/
namespace Go.Proofs.YtnjlganofjkpfaaGreatDoor
open Go.RowKit
set_option linter.unusedVariables false
set_option linter.unusedSimpArgs false

theorem idle_blocks (w : World) :
    CallsD Tryz.prog 66 #[] .returning w fun e u' w' => e = .returned (.tuple #[]) ∧ u' = .returning ∧ w' = w := by
  refine callsD_of_wpS Tryz.func66 rfl fun c₀ cs hu => ?_
  apply wpS_region
  cases c₀
  simp_all [wpOpsS, go_sem, recoverD, Tryz.ntmps66, Exit.thenS, bodyPostS, results, Tryz.results66]

/-- is it a Fault? -/
theorem is_flt (v : Value) (x : TypeId) (w : World) : (Instr.typeAssert (.iface 116 v) x 116 true).run Tryz.prog w = .ok (.tuple #[v, .bool true]) w := by kernel_rfl
theorem is_flt_num (v : Value) (x : TypeId) (w : World) : (Instr.typeAssert (.iface 40 v) x 116 true).run Tryz.prog w = .ok (.tuple #[.pointer none, .bool false]) w := by kernel_rfl

/-- the blocks of an error's Faults -/
def blocksOf : List Node → List Int
  | [] => []
  | .flt b _ :: l => b :: blocksOf l
  | .num _ :: l => []

theorem blocksOf_le : ∀ l : List Node, (blocksOf l).length ≤ l.length
  | [] => by simp [blocksOf]
  | .flt b _ :: l => by have := blocksOf_le l; simp [blocksOf]; omega
  | .num _ :: l => by simp [blocksOf]

/-- the loop of Blocks: what has been gathered, and what is left -/
structure RunB (w0 wr : World) (lv : Value) (done : List Int) (s : List Node) (N : Nat) (tot : List Int) : Prop where
  bel : Below w0.heap.size w0 wr
  own : wr.ownsRow (w0.heap.size + 1) 3 1 lv done.length (i64s done)
  seen : Seen wr w0.heap.size s
  good : Good wr s
  num : count wr w0.heap.size + s.length = N
  all : done ++ blocksOf s = tot

/-- the error has been visited -/
structure MidB (w0 wr : World) (lv : Value) (done : List Int) (x : Node) (s : List Node) (N : Nat) : Prop where
  bel : Below w0.heap.size w0 wr
  own : wr.ownsRow (w0.heap.size + 1) 3 1 lv done.length (i64s done)
  seen : Seen wr w0.heap.size s
  good : Good wr (x :: s)
  num : count wr w0.heap.size + s.length = N

theorem RunB.enter {w0 wr w' : World} {lv : Value} {done : List Int} {x : Node} {s : List Node} {N : Nat} {tot : List Int} (h : RunB w0 wr lv done (x :: s) N tot) (hk : KeptMap w0.heap.size wr w') (hs : Seen w' w0.heap.size s) (hn : count w' w0.heap.size = count wr w0.heap.size + 1) :
    MidB w0 w' lv done x s N :=
  ⟨h.bel.trans (hk.below (Nat.le_refl _) h.bel.size), own_kept h.own (fun k h1 h2 => hk.block k h2 (by omega)), hs, h.good.same (hk.keeps h.seen), by have := h.num; simp only [List.length_cons] at this; omega⟩

theorem MidB.mlt {w0 wr : World} {lv : Value} {done : List Int} {x : Node} {s : List Node} {N : Nat} (h : MidB w0 wr lv done x s N) : w0.heap.size < wr.heap.size := by
  obtain ⟨es, c, hm, _⟩ := h.seen.ex
  exact block_lt hm
theorem RunB.mlt {w0 wr : World} {lv : Value} {done : List Int} {s : List Node} {N : Nat} {tot : List Int} (h : RunB w0 wr lv done s N tot) : w0.heap.size < wr.heap.size := by
  obtain ⟨es, c, hm, _⟩ := h.seen.ex
  exact block_lt hm

theorem MidB.put {w0 wr w' : World} {lv lv' : Value} {done done' : List Int} {x : Node} {s : List Node} {N : Nat} (h : MidB w0 wr lv done x s N) (ho : w'.ownsRow (w0.heap.size + 1) 3 1 lv' done'.length (i64s done')) (hg : wr.grownBy w' lv.ownBlock) : MidB w0 w' lv' done' x s N := by
  have hap := own_apart h.own
  have hmm : w'.heap[w0.heap.size]? = wr.heap[w0.heap.size]? := hg.block _ h.mlt (fun e => by have := (hap _ e.symm).1; omega)
  have hK : Keeps wr w' := fun p c e => by
    by_cases hp : lv.ownBlock = some p
    · obtain ⟨_, cur, hc⟩ := hap p hp
      rw [hc] at e
      cases e
    · exact (hg.block p (block_lt e) (fun e2 => hp e2.symm)).trans e
  refine ⟨h.bel.trans ⟨hg.os, hg.tape, hg.output, hg.size, fun i hi => hg.block i (by have := h.bel.size; omega) (fun e => by have := (hap _ e.symm).1; omega)⟩, ho, h.seen.same hmm hK, h.good.same hK, by rw [count_same hmm]; exact h.num⟩

theorem MidB.later {w0 wr w' : World} {lv : Value} {done : List Int} {x : Node} {s : List Node} {N : Nat} (h : MidB w0 wr lv done x s N) (hb : Below wr.heap.size wr w') : MidB w0 w' lv done x s N :=
  ⟨h.bel.trans (hb.mono h.bel.size), own_kept h.own (fun k h1 h2 => hb.block k h2), h.seen.later hb, h.good.below hb, by rw [count_same (hb.block _ h.mlt)]; exact h.num⟩

theorem MidB.next {w0 wr : World} {lv : Value} {done : List Int} {x : Node} {s : List Node} {N : Nat} {tot : List Int} (h : MidB w0 wr lv done x s N) (ht : done ++ blocksOf s = tot) : RunB w0 wr lv done s N tot := ⟨h.bel, h.own, h.seen, h.good.tail, h.num, ht⟩

set_option maxRecDepth 100000 in
set_option maxHeartbeats 4000000 in
theorem Blocks_any {l : List Node} {w : World} (hG : Good w l) (hlen : l.length ≤ 1000000) :
    Calls Tryz.prog 39 #[val l] w fun e w' => ∃ A n c, e = .returned (.slice A n c) ∧ Ints w' A n c (blocksOf l) ∧ Below w.heap.size w w' ∧ ∀ ad, A = some ad → w.heap.size ≤ ad.block := by
  have hmm := @run_makeMap Tryz.prog
  have b1 : Below w.heap.size w (w.alloc (.map #[] 0)) := (Below.refl _ _).alloc (Nat.le_refl _) _
  have hm := (MapKept.heap_alloc w (.map #[] 0)).1
  have HS : Hid (RunB w (w.alloc (.map #[] 0)) (.slice none 0 0) [] l l.length (blocksOf l)) :=
    ⟨b1, World.ownsRow_nil _ _ _ _, Seen.first w l, hG.below b1, by rw [count_of hm]; simp, rfl⟩
  have HV : ∀ x s, ∃ t u, val (x :: s) = .iface t u := fun x s => by
    rcases isI_val (x :: s) with h | h
    · cases x <;> cases h
    · exact h
  have HCap : Hid ((blocksOf l).length ≤ 1000000) := Nat.le_trans (blocksOf_le l) hlen
  generalize htot : blocksOf l = tot at *
  generalize l.length = N at *
  clear hG hlen hm b1 htot
  generalize hv0 : val l = v0
  go_enter_defers Tryz.func39, Tryz.ntmps39
  go_wp2
  generalize hB : w.heap.size = B at *
  have HB := Lib.hid hB
  clear hB
  go_loopw [0, 2] (fun ev lv wr => ∃ s done, ev = val s ∧ Hid (RunB w wr lv done s N tot)) (fun ev lv wr => N - count wr B)
  case atStart => exact ⟨l, [], hv0.symm, HS⟩
  case round =>
    clear HS hv0
    have a1 := is_flt
    have a3 := is_flt_num
    obtain ⟨s, done, rfl, HR⟩ := hrel
    cases s with
    | nil =>
      simp only [val]
      obtain ⟨A, c, rfl, hI⟩ := Ints.of_own HR.out.own
      have HI := Lib.hid hI
      have hfr : ∀ ad, A = some ad → w.heap.size ≤ ad.block := fun ad e => by
        subst e
        have := (own_apart HR.out.own ad.block rfl).1
        omega
      have HFr := Lib.hid hfr
      clear hfr
      have HA := Lib.hid (show done = tot by have := HR.out.all; simpa [blocksOf] using this)
      have HBel := Lib.hid HR.out.bel
      clear hI HR
      go_wp2
      refine leaves_cons (f := 66) (args := #[]) (by simp) (by simp [go_sem]) ?_
      refine (idle_blocks _).mono ?_
      rintro e u' w'' ⟨rfl, rfl, rfl⟩
      simp [Leaves, settle, results, Tryz.results39, go_sem]
      exact ⟨A, done.length, c, ⟨rfl, rfl, rfl⟩, by rw [← HA.out]; exact HI.out, HBel.out, HFr.out⟩
    | cons x s =>
      have EN := Lib.hid (enter_new HR.out.seen HR.out.good)
      rw [HB.out] at EN
      have hN := HR.out.num
      have HN := Lib.hid hN
      clear hN
      have HLn := Lib.hid (show done.length ≤ 1000000 by
        have h1 := HR.out.all
        have h2 := HCap.out
        rw [← h1] at h2
        simp only [List.length_append] at h2
        omega)
      cases x with
      | flt b p =>
        have HA2 := Lib.hid (show (done ++ [b]) ++ blocksOf s = tot by have := HR.out.all; simpa [blocksOf] using this)
        have UW := Lib.hid (fun W (h : Good W (.flt b p :: s)) => Unwrap_flt h)
        simp only [val] at EN UW ⊢
        go_wp2_with (first
          | (go_at_call 54; (with_reducible refine EN.out.mono ?_); rintro e w1 ⟨rfl, hk1, hs1, hn1⟩; have HM := Lib.hid (HR.out.enter (by rw [HB.out]; exact hk1) (by rw [HB.out]; exact hs1) (by rw [HB.out]; exact hn1)); have hcb : w1.cell? ⟨p, 0, none⟩ = some (.int .i64 b) := (by rw [cell_of_row w1 p 0 _ _ _ HM.out.good.1]; rfl); clear hk1 hs1 hn1)
          | (at_builtin; refine wpList_append_newG w1 rfl (.tmp 20) (.tmp 25) 31 rfl (w.heap.size + 1) 3 _ _ 8 Tryz.underlying31 info_i64 rfl u2 done.length (i64s done) rfl (Lib.hid HM.out.own) HM.out.mlt [.int .i64 b] 1 1 rfl rfl (by simp [Value.oneCell']) (by have := HLn.out; omega) (by omega) ?_; intro v2 w2 ho2 hg2; have HM2 := Lib.hid (HM.out.put (done' := done ++ [b]) (by rw [i64s_append, List.length_append]; exact ho2.out) hg2.out); clear ho2 hg2)
          | (go_at_call 67; (with_reducible refine (UW.out _ HM2.out.good).mono ?_); rintro e w3 ⟨rfl, rfl⟩))
        go_roundw
        case rel => exact ⟨s, _, rfl, HM2.out.next HA2.out⟩
        case measure =>
          have h1 := HN.out
          have h2 := HM2.out.num
          simp only [List.length_cons, HB.out] at h1 h2
          omega
      | num n =>
        have hs0 : s = [] := HR.out.good
        subst hs0
        have HA2 := Lib.hid (show done ++ blocksOf [] = tot by have := HR.out.all; simpa [blocksOf] using this)
        have UW := Lib.hid (fun W => Unwrap_num n [] W)
        simp only [val] at EN UW ⊢
        go_wp2_with (first
          | (go_at_call 54; (with_reducible refine EN.out.mono ?_); rintro e w1 ⟨rfl, hk1, hs1, hn1⟩; have HM := Lib.hid (HR.out.enter (by rw [HB.out]; exact hk1) (by rw [HB.out]; exact hs1) (by rw [HB.out]; exact hn1)); clear hk1 hs1 hn1)
          | (go_at_call 67; (with_reducible refine (UW.out _).mono ?_); rintro e w3 ⟨rfl, rfl⟩))
        go_roundw
        case rel => exact ⟨[], done, rfl, HM.out.next HA2.out⟩
        case measure =>
          have h1 := HN.out
          have h2 := HM.out.num
          simp only [List.length_cons, HB.out] at h1 h2
          omega
end Go.Proofs.YtnjlganofjkpfaaGreatDoor
