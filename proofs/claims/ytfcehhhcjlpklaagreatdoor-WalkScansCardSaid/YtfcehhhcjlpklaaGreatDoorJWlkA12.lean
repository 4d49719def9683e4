/-
  Joined: BitB, BitC, SealA, SealF, FltK.
-/
import Derived.Test.YtfcehhhcjlpklaaGreatDoorJWlkA11
import Derived.Test.YtfcehhhcjlpklaaGreatDoorJWlkA08
import Derived.Test.YtfcehhhcjlpklaaGreatDoorJWlkA07
import Derived.WalkSpells
import Derived.WalkLawsBesides
import Derived.Test.YtfcehhhcjlpklaaGreatDoorJWlkA04
import Derived.Test.YtfcehhhcjlpklaaGreatDoorJWlkA05
import Derived.LoopTactic
import Derived.Test.YtfcehhhcjlpklaaGreatDoorJWlkA03
import Derived.OwnWalk
import Derived.Test.YtfcehhhcjlpklaaGreatDoorJWlkA10
/-
  Layer 9: Put.
-/
namespace Go.Proofs.YtfcehhhcjlpklaaGreatDoor
open Go.RowKit
set_option linter.unusedVariables false
set_option linter.unusedSimpArgs false

/-! ### the document's example -/
end Go.Proofs.YtfcehhhcjlpklaaGreatDoor

/-
  Layer 9: Read.
-/
namespace Go.Proofs.YtfcehhhcjlpklaaGreatDoor
open Go.RowKit
set_option linter.unusedVariables false
set_option linter.unusedSimpArgs false

theorem readBE9_cases (b : List UInt8) : (readBE9 b = 0 ∧ readBL9 b = readBits b ∧ b.length = 244 ∧ numB b ≤ 960 ∧ encBits (readBits b) = b) ∨ (readBE9 b = 7 ∧ readBL9 b = [] ∧ ¬ (b.length = 244 ∧ numB b ≤ 960 ∧ encBits (readBits b) = b)) := by
  by_cases h : b.length = 244 ∧ numB b ≤ 960 ∧ encBits (readBits b) = b
  · have e : readBE9 b = 0 := by rw [readBE9, if_pos h]
    exact .inl ⟨e, by rw [readBL9, if_pos e], h⟩
  · have e : readBE9 b = 7 := by rw [readBE9, if_neg h]
    exact .inr ⟨e, by rw [readBL9, if_neg (by rw [e]; decide)], h⟩

end Go.Proofs.YtfcehhhcjlpklaaGreatDoor

/-
  Layer 4's small functions: isKind, isNumber, Salt, unless, stored, sum; the reference's Salt and known.
-/
namespace Go.Proofs.YtfcehhhcjlpklaaGreatDoor
open Go.RowKit
set_option linter.unusedVariables false
set_option linter.unusedSimpArgs false

set_option maxRecDepth 100000 in
theorem isKind_any (x : Int) (w : World) (r : Bool) (hr : kindB x = r) :
    Calls Tryz.prog 61 #[.int .i64 x] w fun e w' => e = .returned (.bool r) ∧ w = w' := by
  subst hr
  go_enter Tryz.func61, Tryz.ntmps61
  go_wp2
  all_goals go_ret
  all_goals refine ⟨ret_bool ?_, rfl⟩
  all_goals (simp [kindB]; try omega)

set_option maxRecDepth 100000 in
theorem isNumber_any (x : Int) (w : World) (r : Bool) (hr : snumB x = r) :
    Calls Tryz.prog 62 #[.int .i64 x] w fun e w' => e = .returned (.bool r) ∧ w = w' := by
  subst hr
  go_enter Tryz.func62, Tryz.ntmps62
  go_wp2
  all_goals go_ret
  all_goals refine ⟨ret_bool ?_, rfl⟩
  all_goals (simp [snumB]; try omega)

set_option maxRecDepth 100000 in
theorem unless_any (b : Bool) (x : Int) (y : Int) (hy : (if b = true then 0 else x) = y) (w : World) :
    Calls Tryz.prog 135 #[.bool b, .int .i64 x] w fun e w' => e = .returned (.int .i64 y) ∧ w = w' := by
  cases b
  case' true => obtain rfl : 0 = y := hy
  case' false => obtain rfl : x = y := hy
  all_goals try clear hy
  all_goals go_enter Tryz.func135, Tryz.ntmps135
  all_goals go_wp2
  all_goals go_ret
  all_goals exact ⟨rfl, rfl⟩

set_option maxRecDepth 100000 in
theorem Salt_any (x : Int) (w : World) :
    Calls Tryz.prog 88 #[.int .i64 x] w fun e w' => e = .returned (.int .i64 (saltN x : Int)) ∧ w = w' := by
  by_cases h1 : x = 1
  · subst h1
    go_enter Tryz.func88, Tryz.ntmps88
    go_wp2
    go_ret
    exact ⟨rfl, rfl⟩
  by_cases h2 : x = 2
  · subst h2
    go_enter Tryz.func88, Tryz.ntmps88
    go_wp2
    go_ret
    exact ⟨rfl, rfl⟩
  by_cases h3 : x = 3
  · subst h3
    go_enter Tryz.func88, Tryz.ntmps88
    go_wp2
    go_ret
    exact ⟨rfl, rfl⟩
  by_cases h4 : x = 4
  · subst h4
    go_enter Tryz.func88, Tryz.ntmps88
    go_wp2
    go_ret
    exact ⟨rfl, rfl⟩
  · have q1 : (x == 1) = false := by simpa using h1
    have q2 : (x == 2) = false := by simpa using h2
    have q3 : (x == 3) = false := by simpa using h3
    have q4 : (x == 4) = false := by simpa using h4
    have E : Hid (saltN x = 0) := by simp [Hid, saltN, h1, h2, h3, h4]
    clear h1 h2 h3 h4
    go_enter Tryz.func88, Tryz.ntmps88
    go_wp2
    go_ret
    exact ⟨ret_int (by rw [E.out]; rfl), rfl⟩

set_option maxRecDepth 100000 in
theorem refKnown_any (k no : Int) (w : World) (r : Bool) (hr : knownB k no = r) :
    Calls Tryz.prog 122 #[.int .i64 k, .int .i64 no] w fun e w' => e = .returned (.bool r) ∧ w = w' := by
  subst hr
  go_enter Tryz.func122, Tryz.ntmps122
  go_wp2
  all_goals go_ret
  all_goals refine ⟨ret_bool ?_, rfl⟩
  all_goals (rw [Bool.eq_iff_iff]; simp [knownB, kindB, snumB]; try omega)

set_option maxRecDepth 100000 in
theorem refSalt_any (x : Int) (w : World) :
    Calls Tryz.prog 125 #[.int .i64 x] w fun e w' => e = .returned (.int .i64 (saltN x : Int)) ∧ Below w.heap.size w w' := by
  by_cases h0 : x < 0
  · have E : Hid (saltN x = 0) := by simp only [Hid, saltN]; rw [if_neg (by omega), if_neg (by omega), if_neg (by omega), if_neg (by omega)]
    go_enter Tryz.func125, Tryz.ntmps125
    go_wp2
    go_ret
    exact ⟨ret_int (by rw [E.out]; rfl), (Below.refl _ _).alloc (Nat.le_refl _) _⟩
  by_cases h5 : 4 < x
  · have E : Hid (saltN x = 0) := by simp only [Hid, saltN]; rw [if_neg (by omega), if_neg (by omega), if_neg (by omega), if_neg (by omega)]
    go_enter Tryz.func125, Tryz.ntmps125
    go_wp2
    go_ret
    exact ⟨ret_int (by rw [E.out]; rfl), (Below.refl _ _).alloc (Nat.le_refl _) _⟩
  rcases (show x = 0 ∨ x = 1 ∨ x = 2 ∨ x = 3 ∨ x = 4 by omega) with rfl | rfl | rfl | rfl | rfl
  all_goals clear h0 h5
  all_goals go_enter Tryz.func125, Tryz.ntmps125
  all_goals go_wp2
  all_goals go_ret
  all_goals exact ⟨rfl, (Below.refl _ _).alloc (Nat.le_refl _) _⟩

theorem getE_small (l : List UInt8) (i wd : Int) : 0 ≤ getE l i wd ∧ getE l i wd ≤ 3 := by
  unfold getE
  rcases roomE_cases l.length i wd with h | h | ⟨h, _⟩ <;> rw [h] <;> simp <;> split <;> omega

set_option maxRecDepth 100000 in
set_option maxHeartbeats 400000 in
theorem stored_any (A : Option Addr) (n c : Nat) (l : List UInt8) (i wd : Int) (w : World) (h : Bytes8 w A n c l) (hi : -9223372036854775808 ≤ i ∧ i ≤ 9223372036854775807) :
    Calls Tryz.prog 138 #[.slice A n c, .int .i64 i, .int .i64 wd] w fun e w' => e = .returned (.int .i64 (storedN l i wd)) ∧ Below w.heap.size w w' := by
  have G := Lib.hid (Get_any A n c l i wd w h hi)
  have hx := getE_small l i wd
  have E : Hid (storedN l i wd = if getE l i wd = 0 then getN l i wd else -1) := rfl
  clear h hi
  generalize getE l i wd = x at *
  generalize getN l i wd = y at *
  obtain ⟨hx0, hx3⟩ := hx
  by_cases h0 : x = 0
  · subst h0
    go_enter Tryz.func138, Tryz.ntmps138
    go_wp2_with (go_at_call 117; refine (G.out).mono ?_; rintro e w' ⟨rfl, hb⟩)
    go_ret
    exact ⟨ret_int (by rw [E.out]; rfl), hb⟩
  · have q : (x != 0) = true := by simpa using h0
    have E2 : Hid (storedN l i wd = -1) := by have := E.out; rw [if_neg h0] at this; exact this
    clear E h0
    go_enter Tryz.func138, Tryz.ntmps138
    go_wp2_with (go_at_call 117; refine (G.out).mono ?_; rintro e w' ⟨rfl, hb⟩)
    go_ret
    exact ⟨ret_int (by rw [E2.out]), hb⟩

theorem xor_salt (a b : Nat) (ha : a < 4294967296) (hb : b < 4294967296) : bits .xor .i64 (a : Int) (b : Int) = ((a ^^^ b : Nat) : Int) := i64_xor_nat a b (by omega) (by omega)

set_option maxRecDepth 100000 in
set_option maxHeartbeats 400000 in
theorem sum_any (A : Option Addr) (n c : Nat) (l : List UInt8) (k : Int) (w : World) (h : Bytes8 w A n c l) (hn : 252 ≤ n) :
    Calls Tryz.prog 64 #[.slice A n c, .int .i64 k] w fun e w' => e = .returned (.int .i64 (sumN l k : Int)) ∧ Below w.heap.size w w' := by
  have hc := h.cap
  have hm := h.most
  have hB : Bytes8 w A 252 c (l.take 252) := ⟨by rw [List.length_take, h.len]; omega, by omega, hm, by have := h.row.take 252; rwa [u8s_take] at this⟩
  have S := Lib.hid (Sum_one A 252 c (l.take 252) w hB)
  have T := Lib.hid (fun W => Salt_any k W)
  have hx := xor_salt (Crc.sum (l.take 252)) (saltN k) (Crc.sum_lt _) (saltN_lt k)
  have E : Hid (Crc.sum (l.take 252) ^^^ saltN k = sumN l k) := rfl
  clear hB
  generalize Crc.sum (l.take 252) = a at *
  generalize saltN k = b at *
  generalize a ^^^ b = z at *
  clear h
  go_enter Tryz.func64, Tryz.ntmps64
  go_wp2_with (first
    | (go_at_call 87; (with_reducible refine (S.out).mono ?_); rintro e w' ⟨rfl, hb⟩)
    | (go_at_call 88; refine (T.out _).mono ?_; rintro e w2 ⟨rfl, rfl⟩))
  go_ret
  exact ⟨ret_int (by rw [E.out]), hb⟩

end Go.Proofs.YtfcehhhcjlpklaaGreatDoor

/-
  The reference's Seal.
-/
namespace Go.Proofs.YtfcehhhcjlpklaaGreatDoor
open Go.RowKit
set_option linter.unusedVariables false
set_option linter.unusedSimpArgs false

end Go.Proofs.YtfcehhhcjlpklaaGreatDoor

/-
  fault.Blocks.
-/
namespace Go.Proofs.YtfcehhhcjlpklaaGreatDoor
open Go.RowKit
set_option linter.unusedVariables false
set_option linter.unusedSimpArgs false

theorem idle_blocks (w : World) :
    CallsD Tryz.prog 48 #[] .returning w fun e u' w' => e = .returned (.tuple #[]) ∧ u' = .returning ∧ w' = w := by
  refine callsD_of_wpS Tryz.func48 rfl fun c₀ cs hu => ?_
  apply wpS_region
  cases c₀
  simp_all [wpOpsS, go_sem, recoverD, Tryz.ntmps48, Exit.thenS, bodyPostS, results, Tryz.results48]

/-- is it a Fault? -/
theorem is_flt (v : Value) (x : TypeId) (w : World) : (Instr.typeAssert (.iface 111 v) x 111 true).run Tryz.prog w = .ok (.tuple #[v, .bool true]) w := by kernel_rfl
theorem is_flt_num (v : Value) (x : TypeId) (w : World) : (Instr.typeAssert (.iface 50 v) x 111 true).run Tryz.prog w = .ok (.tuple #[.pointer none, .bool false]) w := by kernel_rfl

/-- the blocks of an error's Faults -/
def blocksOf : List Node → List Int
  | [] => []
  | .flt b _ :: l => b :: blocksOf l
  | .num _ :: l => []

theorem blocksOf_le : ∀ l : List Node, (blocksOf l).length ≤ l.length
  | [] => by simp [blocksOf]
  | .flt b _ :: l => by have := blocksOf_le l; simp [blocksOf]; omega
  | .num _ :: l => by simp [blocksOf]

/-- the loop of Blocks: what has been gathered, and what is left -/
structure RunB (w0 wr : World) (lv : Value) (done : List Int) (s : List Node) (N : Nat) (tot : List Int) : Prop where
  bel : Below w0.heap.size w0 wr
  own : wr.ownsRow (w0.heap.size + 1) 3 1 lv done.length (i64s done)
  seen : Seen wr w0.heap.size s
  good : Good wr s
  num : count wr w0.heap.size + s.length = N
  all : done ++ blocksOf s = tot

/-- the error has been visited -/
structure MidB (w0 wr : World) (lv : Value) (done : List Int) (x : Node) (s : List Node) (N : Nat) : Prop where
  bel : Below w0.heap.size w0 wr
  own : wr.ownsRow (w0.heap.size + 1) 3 1 lv done.length (i64s done)
  seen : Seen wr w0.heap.size s
  good : Good wr (x :: s)
  num : count wr w0.heap.size + s.length = N

theorem RunB.enter {w0 wr w' : World} {lv : Value} {done : List Int} {x : Node} {s : List Node} {N : Nat} {tot : List Int} (h : RunB w0 wr lv done (x :: s) N tot) (hk : KeptMap w0.heap.size wr w') (hs : Seen w' w0.heap.size s) (hn : count w' w0.heap.size = count wr w0.heap.size + 1) :
    MidB w0 w' lv done x s N :=
  ⟨h.bel.trans (hk.below (Nat.le_refl _) h.bel.size), own_kept h.own (fun k h1 h2 => hk.block k h2 (by omega)), hs, h.good.same (hk.keeps h.seen), by have := h.num; simp only [List.length_cons] at this; omega⟩

theorem MidB.mlt {w0 wr : World} {lv : Value} {done : List Int} {x : Node} {s : List Node} {N : Nat} (h : MidB w0 wr lv done x s N) : w0.heap.size < wr.heap.size := by
  obtain ⟨es, c, hm, _⟩ := h.seen.ex
  exact block_lt hm
theorem RunB.mlt {w0 wr : World} {lv : Value} {done : List Int} {s : List Node} {N : Nat} {tot : List Int} (h : RunB w0 wr lv done s N tot) : w0.heap.size < wr.heap.size := by
  obtain ⟨es, c, hm, _⟩ := h.seen.ex
  exact block_lt hm

theorem MidB.put {w0 wr w' : World} {lv lv' : Value} {done done' : List Int} {x : Node} {s : List Node} {N : Nat} (h : MidB w0 wr lv done x s N) (ho : w'.ownsRow (w0.heap.size + 1) 3 1 lv' done'.length (i64s done')) (hg : wr.grownBy w' lv.ownBlock) : MidB w0 w' lv' done' x s N := by
  have hap := own_apart h.own
  have hmm : w'.heap[w0.heap.size]? = wr.heap[w0.heap.size]? := hg.block _ h.mlt (fun e => by have := (hap _ e.symm).1; omega)
  have hK : Keeps wr w' := fun p c e => by
    by_cases hp : lv.ownBlock = some p
    · obtain ⟨_, cur, hc⟩ := hap p hp
      rw [hc] at e
      cases e
    · exact (hg.block p (block_lt e) (fun e2 => hp e2.symm)).trans e
  refine ⟨h.bel.trans ⟨hg.os, hg.tape, hg.output, hg.size, fun i hi => hg.block i (by have := h.bel.size; omega) (fun e => by have := (hap _ e.symm).1; omega)⟩, ho, h.seen.same hmm hK, h.good.same hK, by rw [count_same hmm]; exact h.num⟩

theorem MidB.later {w0 wr w' : World} {lv : Value} {done : List Int} {x : Node} {s : List Node} {N : Nat} (h : MidB w0 wr lv done x s N) (hb : Below wr.heap.size wr w') : MidB w0 w' lv done x s N :=
  ⟨h.bel.trans (hb.mono h.bel.size), own_kept h.own (fun k h1 h2 => hb.block k h2), h.seen.later hb, h.good.below hb, by rw [count_same (hb.block _ h.mlt)]; exact h.num⟩

theorem MidB.next {w0 wr : World} {lv : Value} {done : List Int} {x : Node} {s : List Node} {N : Nat} {tot : List Int} (h : MidB w0 wr lv done x s N) (ht : done ++ blocksOf s = tot) : RunB w0 wr lv done s N tot := ⟨h.bel, h.own, h.seen, h.good.tail, h.num, ht⟩

set_option maxRecDepth 100000 in
set_option maxHeartbeats 4000000 in
theorem Blocks_any {l : List Node} {w : World} (hG : Good w l) (hlen : l.length ≤ 1000000) :
    Calls Tryz.prog 28 #[val l] w fun e w' => ∃ A n c, e = .returned (.slice A n c) ∧ Ints w' A n c (blocksOf l) ∧ Below w.heap.size w w' ∧ ∀ ad, A = some ad → w.heap.size ≤ ad.block := by
  have hmm := @run_makeMap Tryz.prog
  have b1 : Below w.heap.size w (w.alloc (.map #[] 0)) := (Below.refl _ _).alloc (Nat.le_refl _) _
  have hm := (MapKept.heap_alloc w (.map #[] 0)).1
  have HS : Hid (RunB w (w.alloc (.map #[] 0)) (.slice none 0 0) [] l l.length (blocksOf l)) :=
    ⟨b1, World.ownsRow_nil _ _ _ _, Seen.first w l, hG.below b1, by rw [count_of hm]; simp, rfl⟩
  have HV : ∀ x s, ∃ t u, val (x :: s) = .iface t u := fun x s => by
    rcases isI_val (x :: s) with h | h
    · cases x <;> cases h
    · exact h
  have HCap : Hid ((blocksOf l).length ≤ 1000000) := Nat.le_trans (blocksOf_le l) hlen
  generalize htot : blocksOf l = tot at *
  generalize l.length = N at *
  clear hG hlen hm b1 htot
  generalize hv0 : val l = v0
  go_enter_defers Tryz.func28, Tryz.ntmps28
  go_wp2
  generalize hB : w.heap.size = B at *
  have HB := Lib.hid hB
  clear hB
  go_loopw [0, 2] (fun ev lv wr => ∃ s done, ev = val s ∧ Hid (RunB w wr lv done s N tot)) (fun ev lv wr => N - count wr B)
  case atStart => exact ⟨l, [], hv0.symm, HS⟩
  case round =>
    clear HS hv0
    have a1 := is_flt
    have a3 := is_flt_num
    obtain ⟨s, done, rfl, HR⟩ := hrel
    cases s with
    | nil =>
      simp only [val]
      obtain ⟨A, c, rfl, hI⟩ := Ints.of_own HR.out.own
      have HI := Lib.hid hI
      have hfr : ∀ ad, A = some ad → w.heap.size ≤ ad.block := fun ad e => by
        subst e
        have := (own_apart HR.out.own ad.block rfl).1
        omega
      have HFr := Lib.hid hfr
      clear hfr
      have HA := Lib.hid (show done = tot by have := HR.out.all; simpa [blocksOf] using this)
      have HBel := Lib.hid HR.out.bel
      clear hI HR
      go_wp2
      refine leaves_cons (f := 48) (args := #[]) (by simp) (by simp [go_sem]) ?_
      refine (idle_blocks _).mono ?_
      rintro e u' w'' ⟨rfl, rfl, rfl⟩
      simp [Leaves, settle, results, Tryz.results28, go_sem]
      exact ⟨A, done.length, c, ⟨rfl, rfl, rfl⟩, by rw [← HA.out]; exact HI.out, HBel.out, HFr.out⟩
    | cons x s =>
      have EN := Lib.hid (enter_new HR.out.seen HR.out.good)
      rw [HB.out] at EN
      have hN := HR.out.num
      have HN := Lib.hid hN
      clear hN
      have HLn := Lib.hid (show done.length ≤ 1000000 by
        have h1 := HR.out.all
        have h2 := HCap.out
        rw [← h1] at h2
        simp only [List.length_append] at h2
        omega)
      cases x with
      | flt b p =>
        have HA2 := Lib.hid (show (done ++ [b]) ++ blocksOf s = tot by have := HR.out.all; simpa [blocksOf] using this)
        have UW := Lib.hid (fun W (h : Good W (.flt b p :: s)) => Unwrap_flt h)
        simp only [val] at EN UW ⊢
        go_wp2_with (first
          | (go_at_call 49; (with_reducible refine EN.out.mono ?_); rintro e w1 ⟨rfl, hk1, hs1, hn1⟩; have HM := Lib.hid (HR.out.enter (by rw [HB.out]; exact hk1) (by rw [HB.out]; exact hs1) (by rw [HB.out]; exact hn1)); have hcb : w1.cell? ⟨p, 0, none⟩ = some (.int .i64 b) := (by rw [cell_of_row w1 p 0 _ _ _ HM.out.good.1]; rfl); clear hk1 hs1 hn1)
          | (at_builtin; refine wpList_append_newG w1 rfl (.tmp 20) (.tmp 25) 26 rfl (w.heap.size + 1) 3 _ _ 8 Tryz.underlying26 info_i64 rfl u2 done.length (i64s done) rfl (Lib.hid HM.out.own) HM.out.mlt [.int .i64 b] 1 1 rfl rfl (by simp [Value.oneCell']) (by have := HLn.out; omega) (by omega) ?_; intro v2 w2 ho2 hg2; have HM2 := Lib.hid (HM.out.put (done' := done ++ [b]) (by rw [i64s_append, List.length_append]; exact ho2.out) hg2.out); clear ho2 hg2)
          | (go_at_call 50; (with_reducible refine (UW.out _ HM2.out.good).mono ?_); rintro e w3 ⟨rfl, rfl⟩))
        go_roundw
        case rel => exact ⟨s, _, rfl, HM2.out.next HA2.out⟩
        case measure =>
          have h1 := HN.out
          have h2 := HM2.out.num
          simp only [List.length_cons, HB.out] at h1 h2
          omega
      | num n =>
        have hs0 : s = [] := HR.out.good
        subst hs0
        have HA2 := Lib.hid (show done ++ blocksOf [] = tot by have := HR.out.all; simpa [blocksOf] using this)
        have UW := Lib.hid (fun W => Unwrap_num n [] W)
        simp only [val] at EN UW ⊢
        go_wp2_with (first
          | (go_at_call 49; (with_reducible refine EN.out.mono ?_); rintro e w1 ⟨rfl, hk1, hs1, hn1⟩; have HM := Lib.hid (HR.out.enter (by rw [HB.out]; exact hk1) (by rw [HB.out]; exact hs1) (by rw [HB.out]; exact hn1)); clear hk1 hs1 hn1)
          | (go_at_call 50; (with_reducible refine (UW.out _).mono ?_); rintro e w3 ⟨rfl, rfl⟩))
        go_roundw
        case rel => exact ⟨[], done, rfl, HM.out.next HA2.out⟩
        case measure =>
          have h1 := HN.out
          have h2 := HM.out.num
          simp only [List.length_cons, HB.out] at h1 h2
          omega
end Go.Proofs.YtfcehhhcjlpklaaGreatDoor
