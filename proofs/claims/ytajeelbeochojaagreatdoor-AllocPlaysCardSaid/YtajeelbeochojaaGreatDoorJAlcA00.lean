/-
  Joined, on top of AlcB: MemB 1, MemF 1, Newer 2, AlcA 3, FltC 2, FltK 3, FltO 1, FltP 4, FltQ 1, Open 1, OpenB 1, FltT 2, CodeE 2, BlkB 1, CrcMath 1, ImgB 1, ImgD 2, ImgF 6, ImgG 4, ImgH 7, ImgI 1, CrcA 2, SealA 2, CrcD 2, SealF 7, BlkR 5, ImgJ 3, BlkW 2, AlcB 5, AlcC 2, AlcD 2, AlcE 1, AlcR 5, AlcS 5, AlcT 13, AlcU 15, CodeK 1, AlcW 28, AlcX 16, OpenJ 5, AlcLawA 13, AlcLawD 2.
-/
import Derived.Test.YtajeelbeochojaaGreatDoorJAlcB00
import Derived.Test.YtajeelbeochojaaGreatDoorJAlcB01
import Derived.Test.YtajeelbeochojaaGreatDoorJAlcB02
import Derived.Test.YtajeelbeochojaaGreatDoorJAlcB03
import Derived.Test.YtajeelbeochojaaGreatDoorJAlcB04
import Derived.Test.YtajeelbeochojaaGreatDoorJAlcB05
import Derived.Test.YtajeelbeochojaaGreatDoorJAlcB06
import Derived.Test.YtajeelbeochojaaGreatDoorJAlcB07
import Derived.Test.YtajeelbeochojaaGreatDoorJAlcB08
import Derived.Test.YtajeelbeochojaaGreatDoorJAlcB09
import Derived.Test.YtajeelbeochojaaGreatDoorJAlcB10
import Derived.Test.YtajeelbeochojaaGreatDoorJAlcB11
import Derived.Test.YtajeelbeochojaaGreatDoorJAlcB12
import Derived.Test.YtajeelbeochojaaGreatDoorJAlcB13
import Derived.Test.YtajeelbeochojaaGreatDoorJAlcB14
import Derived.Test.YtajeelbeochojaaGreatDoorJAlcB15
import Derived.Test.YtajeelbeochojaaGreatDoorJAlcB16
import Derived.Test.YtajeelbeochojaaGreatDoorJAlcB17
import Derived.Test.YtajeelbeochojaaGreatDoorJAlcB18
import Derived.Test.YtajeelbeochojaaGreatDoorJAlcB19
import Derived.Test.YtajeelbeochojaaGreatDoorJAlcB20
import Derived.Test.YtajeelbeochojaaGreatDoorJAlcB21
import Derived.Test.YtajeelbeochojaaGreatDoorJAlcB22
import Derived.Test.YtajeelbeochojaaGreatDoorJAlcB23
import Derived.Test.YtajeelbeochojaaGreatDoorJAlcB24
import Derived.Test.YtajeelbeochojaaGreatDoorJAlcB25
import Derived.Test.YtajeelbeochojaaGreatDoorJAlcB26
import Derived.Test.YtajeelbeochojaaGreatDoorJAlcB27
import Derived.Test.YtajeelbeochojaaGreatDoorJAlcB28
import Derived.Test.YtajeelbeochojaaGreatDoorJAlcB29
import Derived.Test.YtajeelbeochojaaGreatDoorJAlcB30
import Derived.Test.YtajeelbeochojaaGreatDoorJAlcB31
import Derived.Test.YtajeelbeochojaaGreatDoorJAlcB32
import Derived.Test.YtajeelbeochojaaGreatDoorJAlcB33
import Derived.Test.YtajeelbeochojaaGreatDoorJAlcB34
import Derived.Test.YtajeelbeochojaaGreatDoorJAlcB35
import Derived.Test.YtajeelbeochojaaGreatDoorJAlcB36
import Derived.Test.YtajeelbeochojaaGreatDoorJAlcB37
import Derived.Test.YtajeelbeochojaaGreatDoorJAlcB38
import Derived.Test.YtajeelbeochojaaGreatDoorJAlcB39
import Derived.LaidEqlPtr
import Derived.Laws.Small
import Derived.Deep.Quiet
import Derived.Deep.QuietTactic
import Derived.BigQuiet
import Derived.Deep.RegionHeld3
import Derived.Great.BuildSlice
import Derived.LoopTactic
import Derived.OwnWalk
import Derived.Laws.BytesArg
import Derived.ProofKit
import Derived.OpenShut
import Derived.ShutString
import Derived.ChangeOld
import Derived.Deep.Slices
import Derived.Deep.Fields
import Derived.SizedLaws
import Derived.Deep.Matrix
import Derived.Deep.RegionLaw
import Derived.WalkKit
import Derived.Deep.OwnRows
import Derived.Deep.AppendLies
import Derived.Lib.AppendStr
import Derived.Laws.IdiomStrings
import Derived.Test.YtajeelbeochojaaGreatDoorRows
import Derived.Laws.BitsAllLaws
import Derived.WalkSpells
import Derived.WalkLawsBesides
import Derived.Lib.SlBytesConst
import Derived.Deep.RegionWith
import Derived.Deep.DeepCutAuto
import Derived.Deep.Strs
/-
  Words for memory, second part: append of a row, whatever its address.
-/
namespace Go.Proofs.YtajeelbeochojaaGreatDoor
open Go.RowKit
set_option linter.unusedVariables false
set_option linter.unusedSimpArgs false

theorem step_append_row {P : Program} (w : World) {ops : Array Oper} {o : Oper} {a : Act} {K : Act → World → Prop} {Q : Exit → Act → World → Prop} {E : Prop} (hgd : o.guard = none) (s x : Operand) (t : TypeId)
    (ho : o.op = .call { callee := .builtin .append, args := #[s, x], argTypes := #[t, t] })
    (base : Nat) (e : TypeId) (z : Value) (bytes : Nat) (ht : P.underlying t = some (.slice e)) (hi : (P.info? e).map (fun i => (i.zero, i.size, i.bytes)) = some (some z, 1, bytes)) (hzs : z.cells.size = 1)
    (v : Value) (n : Nat) (xs : List Value) (hs : a.eval s = v) (hown : Hid (w.ownsRow base e 1 v n xs)) (hb : base ≤ w.heap.size)
    (ao : Option Addr) (news : List Value) (m c : Nat) (hx : a.eval x = .slice ao m c) (hl : news.length = m) (hr : Row w ao news) (h1 : ∀ u ∈ news, u.oneCell' = true)
    (hn : (n + m) * bytes ≤ 140737488355328) (hby : 1 ≤ bytes)
    (h : ∀ v' w', Hid (w'.ownsRow base e 1 v' (n + m) (xs ++ news)) → base ≤ w'.heap.size → Below base w w' → K (a.put o.dst v') w') :
    if Region.wanted o (yielded ops a.tmps) = true then Oper.wp P o a w K Q else E := by
  have hw : Region.wanted o (yielded ops a.tmps) = true := by simp [Region.wanted, hgd]
  rw [if_pos hw]
  exact wp_append_row w s x t ho base e z bytes ht hi hzs v n xs hs hown hb ao news m c hx hl hr h1 hn hby h

end Go.Proofs.YtajeelbeochojaaGreatDoor

/-
  append onto a row of the call's own, all else kept: not only what lies below a bound.
-/
namespace Go.Proofs.YtajeelbeochojaaGreatDoor
open Go.RowKit
set_option linter.unusedVariables false
set_option linter.unusedSimpArgs false

/-- append of new elements of one cell each: every block but the row's own stands as it stood -/
theorem wpList_append_newG {P : Program} (w : World) {ops : Array Oper} {rest : List Oper} {o : Oper} {a : Act} {Q : Exit → Act → World → Prop} (hgd : o.guard = none) (s x : Operand) (t : TypeId)
    (ho : o.op = .call { callee := .builtin .append, args := #[s, x], argTypes := #[t, t] })
    (base : Nat) (e te : TypeId) (z : Value) (bytes : Nat) (ht : P.underlying t = some (.slice e)) (hi : (P.info? e).map (fun i => (i.zero, i.size, i.bytes)) = some (some z, 1, bytes)) (hzs : z.cells.size = 1)
    (v : Value) (n : Nat) (xs : List Value) (hs : a.eval s = v) (hown : Hid (w.ownsRow base e 1 v n xs)) (hb : base ≤ w.heap.size)
    (news : List Value) (m c : Nat) (hx : a.eval x = .slice (some ⟨w.heap.size, 0, none⟩) m c) (hl : news.length = m) (h1 : ∀ u ∈ news, u.oneCell' = true)
    (hn : (n + m) * bytes ≤ 140737488355328) (hby : 1 ≤ bytes)
    (h : ∀ v' w', Hid (w'.ownsRow base e 1 v' (n + m) (xs ++ news)) → Hid (w.grownBy w' v.ownBlock) → wpList P ops Q rest (a.put o.dst v') w') :
    wpList P ops Q (o :: rest) a (w.alloc (.cells news.toArray te)) := by
  obtain ⟨i0, hi0, hz0, hz1, hz2⟩ := info_parts hi
  have hnm : n + m ≤ 140737488355328 := Nat.le_trans (Nat.le_mul_of_pos_right _ (by omega)) hn
  refine wpList_append_own _ hgd s x t ho base e i0 z 1 bytes ht hi0 hz0 hz1 hz2 hzs (by omega) v n xs hs (hown.out.alloc _) ⟨w.heap.size, 0, none⟩ m c news hx (by rw [hl]; simp)
    (by have := cells_new w news.toArray te; simpa using this) h1 (by simp only [maxLen]; omega) hn (by simp; omega) ?_
  intro v' w' hown' hg _
  refine h v' w' hown' ⟨hg.os, hg.tape, hg.output, by have := hg.size; simp at this; omega, fun k hk hr => ?_⟩
  exact (hg.block k (by simp; omega) hr).trans (Below.heap_alloc w _ k hk)

end Go.Proofs.YtajeelbeochojaaGreatDoor

/-
  A slice whose block lies above a bound: nothing below the bound reaches it.
-/
namespace Go.Proofs.YtajeelbeochojaaGreatDoor
open Go.RowKit
set_option linter.unusedVariables false
set_option linter.unusedSimpArgs false

theorem Row.newer {w w' : World} {A : Option Addr} {l : List Value} {B : Nat} (h : Row w A l) (hA : Newer B A) (hk : ∀ k, B ≤ k → w'.heap[k]? = w.heap[k]?) : Row w' A l := fun k v e => by
  obtain ⟨ad, ea, hc⟩ := h k v e
  refine ⟨ad, ea, ?_⟩
  have hb : (ad.add k).block = ad.block := addr_add_block ad k
  exact (World.cell?_of_block (w := w) (hk _ (by rw [hb]; exact hA ad ea))).trans hc
theorem Ints.newer {w w' : World} {A : Option Addr} {n c : Nat} {l : List Int} {B : Nat} (h : Ints w A n c l) (hA : Newer B A) (hk : ∀ k, B ≤ k → w'.heap[k]? = w.heap[k]?) : Ints w' A n c l := ⟨h.len, h.cap, h.most, h.row.newer hA hk⟩

end Go.Proofs.YtajeelbeochojaaGreatDoor

/-
  Layer 16's allocator in memory: made, rest, Left, Used, Image, next, take, Next, Ahead.
-/
namespace Go.Proofs.YtajeelbeochojaaGreatDoor
open Go.RowKit
set_option linter.unusedVariables false
set_option linter.unusedSimpArgs false

/-! ### integers, cut -/
/-- the first k elements -/
theorem cut_to16 {w : World} {A : Option Addr} {n c : Nat} {l : List Int} (h : Ints w A n c l) {k : Nat} (hk : k ≤ n) :
    (∀ V, (Instr.slice 23 (.slice A n c) none (some (.int .i64 (k : Int))) none).run Tryz.prog V = .ok (.slice A k c) V) ∧ Ints w A k c (l.take k) := by
  have hlen := h.len
  have hcap := h.cap
  have hmost := h.most
  refine ⟨fun V => ?_, ⟨by simp [hlen]; omega, by omega, hmost, ?_⟩⟩
  · rw [run_slice_h (P := Tryz.prog) (w := V) (t := 23) (a := A) (len := n) (cap := c) (ht := by rw [elem_int16]; exact Tryz.underlying23) (kh := .i64) (h := (k : Int)) (h0 := by omega) (h2 := by omega), elem_int16, size_int16]
    have e : (if c = 0 then A else A.map (·.add 0)) = A := by
      split
      · rfl
      · cases A with
        | none => rfl
        | some a => simp [Addr.add]
    simp only [Result.andThen, sliced, Int.toNat_natCast, Nat.mul_one, Nat.sub_zero, Nat.zero_mul, e]
  · have := h.row.take k
    simpa [i64s] using this

/-! ### an allocator -/
section
variable {w w' : World} {base p m : Nat} {A : Option Addr} {n c : Nat} {l : List Int} {t : Nat}
theorem Alc.mov (h : Alc w base p m A n c l t) (hb : w'.heap[p]? = w.heap[p]?) (hA : ∀ ad, A = some ad → w'.heap[ad.block]? = w.heap[ad.block]?) : Alc w' base p m A n c l t :=
  ⟨h.bp, hb.trans h.hp, ⟨h.ints.len, h.ints.cap, h.ints.most, fun k v e => by
    obtain ⟨ad, ea, hc⟩ := h.ints.row k v e
    refine ⟨ad, ea, ?_⟩
    have hbk : (ad.add k).block = ad.block := addr_add_block ad k
    exact (World.cell?_of_block (w := w) (by rw [hbk]; exact hA ad ea)).trans hc⟩, h.le, h.low⟩
end

section
variable {w : World} {base p m : Nat} {A : Option Addr} {n c : Nat} {l : List Int} {t : Nat}
set_option maxRecDepth 100000 in
theorem Image_yes16 (h : Alc w base p m A n c l t) : Calls Tryz.prog 24 #[.pointer (some ⟨p, 0, none⟩)] w fun e w' => e = .returned (.pointer (some ⟨m, 0, none⟩)) ∧ w = w' := by
  have MD := Lib.hid (made_yes16 h)
  have h1 := h.cell1
  clear h
  go_enter Tryz.func24, Tryz.ntmps24
  go_wp2_with (go_at_call 39; (with_reducible refine (MD.out).mono ?_); rintro e w1 ⟨rfl, rfl⟩)
  go_ret
  exact ⟨rfl, rfl⟩

end

end Go.Proofs.YtajeelbeochojaaGreatDoor

/-
  fault.bare, fault.wrapped, errors.Unwrap.
-/
namespace Go.Proofs.YtajeelbeochojaaGreatDoor
open Go.RowKit
set_option linter.unusedVariables false
set_option linter.unusedSimpArgs false

section
variable (v : Value) (x : TypeId) (w : World)
end

set_option maxRecDepth 100000 in
/-- errors.Unwrap -/
theorem Unwrap_flt {b : Int} {p : Nat} {l : List Node} {w : World} (hg : Good w (.flt b p :: l)) :
    Calls Tryz.prog 53 #[val (.flt b p :: l)] w fun e w' => e = .returned (val l) ∧ w = w' := by
  have hu := unwrap_flt hg
  have a1 := as_u_flt
  have m1 := method_flt
  simp only [val]
  clear hg
  generalize val l = v at *
  go_enter Tryz.func53, Tryz.ntmps53
  go_wp2_with (go_at_call 132; refine hu.mono ?_; rintro e w' ⟨rfl, rfl⟩)
  go_ret
  exact ⟨rfl, rfl⟩
set_option maxRecDepth 100000 in
theorem Unwrap_num (n : Int) (l : List Node) (w : World) :
    Calls Tryz.prog 53 #[val (.num n :: l)] w fun e w' => e = .returned .nilIface ∧ w = w' := by
  have a1 := as_u_num
  simp only [val]
  go_enter Tryz.func53, Tryz.ntmps53
  go_wp2
  go_ret
  exact ⟨rfl, rfl⟩
end Go.Proofs.YtajeelbeochojaaGreatDoor

/-
  fault.Blocks.
-/
namespace Go.Proofs.YtajeelbeochojaaGreatDoor
open Go.RowKit
set_option linter.unusedVariables false
set_option linter.unusedSimpArgs false

theorem idle_blocks (w : World) :
    CallsD Tryz.prog 52 #[] .returning w fun e u' w' => e = .returned (.tuple #[]) ∧ u' = .returning ∧ w' = w := by
  refine callsD_of_wpS Tryz.func52 rfl fun c₀ cs hu => ?_
  apply wpS_region
  cases c₀
  simp_all [wpOpsS, go_sem, recoverD, Tryz.ntmps52, Exit.thenS, bodyPostS, results, Tryz.results52]

theorem blocksOf_le : ∀ l : List Node, (blocksOf l).length ≤ l.length
  | [] => by simp [blocksOf]
  | .flt b _ :: l => by have := blocksOf_le l; simp [blocksOf]; omega
  | .num _ :: l => by simp [blocksOf]

set_option maxRecDepth 100000 in
set_option maxHeartbeats 4000000 in
theorem Blocks_any {l : List Node} {w : World} (hG : Good w l) (hlen : l.length ≤ 1000000) :
    Calls Tryz.prog 34 #[val l] w fun e w' => ∃ A n c, e = .returned (.slice A n c) ∧ Ints w' A n c (blocksOf l) ∧ Below w.heap.size w w' ∧ ∀ ad, A = some ad → w.heap.size ≤ ad.block := by
  have hmm := @run_makeMap Tryz.prog
  have b1 : Below w.heap.size w (w.alloc (.map #[] 0)) := (Below.refl _ _).alloc (Nat.le_refl _) _
  have hm := (MapKept.heap_alloc w (.map #[] 0)).1
  have HS : Hid (RunB w (w.alloc (.map #[] 0)) (.slice none 0 0) [] l l.length (blocksOf l)) :=
    ⟨b1, World.ownsRow_nil _ _ _ _, Seen.first w l, hG.below b1, by rw [count_of hm]; simp, rfl⟩
  have HV : ∀ x s, ∃ t u, val (x :: s) = .iface t u := fun x s => by
    rcases isI_val (x :: s) with h | h
    · cases x <;> cases h
    · exact h
  have HCap : Hid ((blocksOf l).length ≤ 1000000) := Nat.le_trans (blocksOf_le l) hlen
  generalize htot : blocksOf l = tot at *
  generalize l.length = N at *
  clear hG hlen hm b1 htot
  generalize hv0 : val l = v0
  go_enter_defers Tryz.func34, Tryz.ntmps34
  go_wp2
  generalize hB : w.heap.size = B at *
  have HB := Lib.hid hB
  clear hB
  go_loopw [0, 2] (fun ev lv wr => ∃ s done, ev = val s ∧ Hid (RunB w wr lv done s N tot)) (fun ev lv wr => N - count wr B)
  case atStart => exact ⟨l, [], hv0.symm, HS⟩
  case round =>
    clear HS hv0
    have a1 := is_flt
    have a3 := is_flt_num
    obtain ⟨s, done, rfl, HR⟩ := hrel
    cases s with
    | nil =>
      simp only [val]
      obtain ⟨A, c, rfl, hI⟩ := Ints.of_own HR.out.own
      have HI := Lib.hid hI
      have hfr : ∀ ad, A = some ad → w.heap.size ≤ ad.block := fun ad e => by
        subst e
        have := (own_apart HR.out.own ad.block rfl).1
        omega
      have HFr := Lib.hid hfr
      clear hfr
      have HA := Lib.hid (show done = tot by have := HR.out.all; simpa [blocksOf] using this)
      have HBel := Lib.hid HR.out.bel
      clear hI HR
      go_wp2
      refine leaves_cons (f := 52) (args := #[]) (by simp) (by simp [go_sem]) ?_
      refine (idle_blocks _).mono ?_
      rintro e u' w'' ⟨rfl, rfl, rfl⟩
      simp [Leaves, settle, results, Tryz.results34, go_sem]
      exact ⟨A, done.length, c, ⟨rfl, rfl, rfl⟩, by rw [← HA.out]; exact HI.out, HBel.out, HFr.out⟩
    | cons x s =>
      have EN := Lib.hid (enter_new HR.out.seen HR.out.good)
      rw [HB.out] at EN
      have hN := HR.out.num
      have HN := Lib.hid hN
      clear hN
      have HLn := Lib.hid (show done.length ≤ 1000000 by
        have h1 := HR.out.all
        have h2 := HCap.out
        rw [← h1] at h2
        simp only [List.length_append] at h2
        omega)
      cases x with
      | flt b p =>
        have HA2 := Lib.hid (show (done ++ [b]) ++ blocksOf s = tot by have := HR.out.all; simpa [blocksOf] using this)
        have UW := Lib.hid (fun W (h : Good W (.flt b p :: s)) => Unwrap_flt h)
        simp only [val] at EN UW ⊢
        go_wp2_with (first
          | (go_at_call 48; (with_reducible refine EN.out.mono ?_); rintro e w1 ⟨rfl, hk1, hs1, hn1⟩; have HM := Lib.hid (HR.out.enter (by rw [HB.out]; exact hk1) (by rw [HB.out]; exact hs1) (by rw [HB.out]; exact hn1)); have hcb : w1.cell? ⟨p, 0, none⟩ = some (.int .i64 b) := (by rw [cell_of_row w1 p 0 _ _ _ HM.out.good.1]; rfl); clear hk1 hs1 hn1)
          | (at_builtin; refine wpList_append_newG w1 rfl (.tmp 20) (.tmp 25) 23 rfl (w.heap.size + 1) 3 _ _ 8 Tryz.underlying23 info_i64 rfl u2 done.length (i64s done) rfl (Lib.hid HM.out.own) HM.out.mlt [.int .i64 b] 1 1 rfl rfl (by simp [Value.oneCell']) (by have := HLn.out; omega) (by omega) ?_; intro v2 w2 ho2 hg2; have HM2 := Lib.hid (HM.out.put (done' := done ++ [b]) (by rw [i64s_append, List.length_append]; exact ho2.out) hg2.out); clear ho2 hg2)
          | (go_at_call 53; (with_reducible refine (UW.out _ HM2.out.good).mono ?_); rintro e w3 ⟨rfl, rfl⟩))
        go_roundw
        case rel => exact ⟨s, _, rfl, HM2.out.next HA2.out⟩
        case measure =>
          have h1 := HN.out
          have h2 := HM2.out.num
          simp only [List.length_cons, HB.out] at h1 h2
          omega
      | num n =>
        have hs0 : s = [] := HR.out.good
        subst hs0
        have HA2 := Lib.hid (show done ++ blocksOf [] = tot by have := HR.out.all; simpa [blocksOf] using this)
        have UW := Lib.hid (fun W => Unwrap_num n [] W)
        simp only [val] at EN UW ⊢
        go_wp2_with (first
          | (go_at_call 48; (with_reducible refine EN.out.mono ?_); rintro e w1 ⟨rfl, hk1, hs1, hn1⟩; have HM := Lib.hid (HR.out.enter (by rw [HB.out]; exact hk1) (by rw [HB.out]; exact hs1) (by rw [HB.out]; exact hn1)); clear hk1 hs1 hn1)
          | (go_at_call 53; (with_reducible refine (UW.out _).mono ?_); rintro e w3 ⟨rfl, rfl⟩))
        go_roundw
        case rel => exact ⟨[], done, rfl, HM.out.next HA2.out⟩
        case measure =>
          have h1 := HN.out
          have h2 := HM.out.num
          simp only [List.length_cons, HB.out] at h1 h2
          omega
end Go.Proofs.YtajeelbeochojaaGreatDoor

/-
  fault.At, fault.First; the law's Own.
-/
namespace Go.Proofs.YtajeelbeochojaaGreatDoor
open Go.RowKit
set_option linter.unusedVariables false
set_option linter.unusedSimpArgs false

theorem Chain.plain : ∀ {bs : List Int} {code : Int} {l : List Node}, Chain bs code l → Plain l
  | _, _, _, _ => trivial
end Go.Proofs.YtajeelbeochojaaGreatDoor

/-
  fault.First; the law's Told; the reference's Same and At.
-/
namespace Go.Proofs.YtajeelbeochojaaGreatDoor
open Go.RowKit
set_option linter.unusedVariables false
set_option linter.unusedSimpArgs false

theorem results_rf {fn : Func} {p : Tmp} (h : fn.results = #[.cell p 37]) (tmps : Array Value) (w : World) (g : Nat) (a b : Value)
    (hp : tmps.getD p undef = .pointer (some ⟨g, 0, none⟩)) (hg : w.heap[g]? = some (.cells #[a, b] 37 (0, 0))) : (results fn tmps).run Tryz.prog w = .ok (.agg #[a, b]) w :=
  results_cell_row h tmps w g _ #[a, b] (0, 0) _ hp hg Tryz.underlying37 rfl (by kernel_rfl)

set_option maxRecDepth 100000 in
theorem Told_nil (w : World) :
    Calls Tryz.prog 14 #[.nilIface] w fun e w' => e = .returned (rf none 0 0 0) ∧ Below w.heap.size w w' := by
  simp only [rf]
  go_enter Tryz.func14, Tryz.ntmps14
  go_wp2
  refine bodyPost_ret (results_rf Tryz.results14 _ _ w.heap.size (.slice none 0 0) (.int .i64 0) rfl (MapKept.heap_alloc w _).1) rfl ?_
  exact ⟨rfl, (Below.refl _ _).alloc (Nat.le_refl _) _⟩

theorem Ints.kept2 {w : World} {A : Option Addr} {n c g : Nat} {l : List Int} {x y : Value} (h : Ints w A n c l) (hf : ∀ ad, A = some ad → g < ad.block) : Ints ((w.setCell ⟨g, 0, none⟩ x).setCell ⟨g, 1, none⟩ y) A n c l :=
  ⟨h.len, h.cap, h.most, fun k v hk => by
    obtain ⟨ad, e, hc⟩ := h.row k v hk
    refine ⟨ad, e, ?_⟩
    have := hf ad e
    have hb : (ad.add k).block = ad.block := addr_add_block ad k
    rw [World.cell?_of_block (w := w) (by rw [Below.heap_setCell _ _ _ _ (by show (ad.add k).block ≠ g; omega), Below.heap_setCell _ _ _ _ (by show (ad.add k).block ≠ g; omega)])]
    exact hc⟩

set_option maxRecDepth 100000 in
theorem Told_err {x : Node} {l : List Node} {w : World} (hG : Good w (x :: l)) (hg : ErrT w) (hlen : (x :: l).length ≤ 1000000) :
    Calls Tryz.prog 14 #[val (x :: l)] w fun e w' => ∃ A n c, e = .returned (rf A n c (codeOf (x :: l))) ∧ Ints w' A n c (blocksOf (x :: l)) ∧ Below w.heap.size w w' := by
  simp only [rf]
  have BL := Lib.hid (fun W (h : Good W (x :: l)) => Blocks_any h hlen)
  have CO := Lib.hid (fun W (h : Good W (x :: l)) (h2 : ErrT W) => Code_err h h2)
  have HG := Lib.hid hG
  have HE := Lib.hid hg
  obtain ⟨t, u, hv⟩ : ∃ t u, val (x :: l) = .iface t u := by cases x <;> exact ⟨_, _, rfl⟩
  rw [hv] at BL CO ⊢
  generalize codeOf (x :: l) = code at *
  generalize blocksOf (x :: l) = bs at *
  clear hG hg hlen hv
  have b1 : Below w.heap.size w (w.alloc (.cells #[.slice none 0 0, .int .i64 0] 37)) := (Below.refl _ _).alloc (Nat.le_refl _) _
  have HB1 := Lib.hid b1
  have hh1 := (MapKept.heap_alloc w (.cells #[.slice none 0 0, .int .i64 0] 37)).1
  have HH1 := Lib.hid hh1
  clear b1 hh1
  go_enter Tryz.func14, Tryz.ntmps14
  go_wp2_with (first
    | (go_at_call 34; (with_reducible refine (BL.out _ (HG.out.below HB1.out)).mono ?_); rintro e w1 ⟨A, n, c, rfl, hI, hb, hfr⟩; have HFr := Lib.hid hfr; clear hfr; have H1 := Lib.hid (HB1.out.trans (hb.mono HB1.out.size)); have HI1 := Lib.hid hI; have hh2 := (hb.block _ (block_lt HH1.out)).trans HH1.out; clear hI hb)
    | (go_at_call 27; (with_reducible refine (CO.out _ (HG.out.below H1.out) (HE.out.later H1.out)).mono ?_); rintro e w2 ⟨rfl, hb⟩; have H2 := Lib.hid (H1.out.trans (hb.mono H1.out.size)); have HI2 := Lib.hid (HI1.out.below hb); have hh3 := (hb.block _ (block_lt hh2)).trans hh2; have HH3 := Lib.hid hh3; have k0 : w2.cell? ⟨w.heap.size, 0, none⟩ = some (.slice none 0 0) := (by rw [cell_of_row w2 w.heap.size 0 _ _ _ hh3]; rfl); have k1 : w2.cell? ⟨w.heap.size, 1, none⟩ = some (.int .i64 0) := (by rw [cell_of_row w2 w.heap.size 1 _ _ _ hh3]; rfl); have f0 := Lib.frozen_of_heap hh3 0; have f1 := Lib.frozen_of_heap hh3 1; clear hb hh2 hh3))
  refine bodyPost_ret (results_rf Tryz.results14 _ _ w.heap.size (.slice A n c) (.int .i64 code) rfl (two_sets HH3.out)) rfl ?_
  refine ⟨A, n, c, rfl, ?_, (H2.out.setCell (p := ⟨w.heap.size, 0, none⟩) (Nat.le_refl _) _).setCell (p := ⟨w.heap.size, 1, none⟩) (Nat.le_refl _) _⟩
  refine HI2.out.kept2 fun ad e => ?_
  have := HFr.out ad e
  simp at this
  omega
end Go.Proofs.YtajeelbeochojaaGreatDoor

/-
  The reference's Same; the document's example.
-/
namespace Go.Proofs.YtajeelbeochojaaGreatDoor
open Go.RowKit
set_option linter.unusedVariables false
set_option linter.unusedSimpArgs false

set_option maxRecDepth 100000 in
set_option maxHeartbeats 1000000 in
theorem Flt_same {A A2 : Option Addr} {n c n2 c2 : Nat} {l : List Int} (x : Int) {w : World} (h : Ints w A n c l) (h2 : Ints w A2 n2 c2 l) :
    Calls Tryz.prog 13 #[rf A n c x, rf A2 n2 c2 x] w fun e w' => e = .returned (.bool true) ∧ Below w.heap.size w w' := by
  obtain rfl : n = n2 := h.len.symm.trans h2.len
  simp only [rf]
  have hn := h.le
  have HL := Lib.hid h.len
  have HI := Lib.hid h
  have HI2 := Lib.hid h2
  clear h h2
  have b1 : Below w.heap.size w (w.alloc (.cells #[.slice A n c, .int .i64 x] 37)) := (Below.refl _ _).alloc (Nat.le_refl _) _
  have b2 : Below w.heap.size w ((w.alloc (.cells #[.slice A n c, .int .i64 x] 37)).alloc (.cells #[.slice A2 n c2, .int .i64 x] 37)) := b1.alloc b1.size _
  have hsz : (w.alloc (.cells #[.slice A n c, .int .i64 x] 37)).heap.size = w.heap.size + 1 := by simp
  have h0 : ((w.alloc (.cells #[.slice A n c, .int .i64 x] 37)).alloc (.cells #[.slice A2 n c2, .int .i64 x] 37)).heap[w.heap.size]? = some (.cells #[.slice A n c, .int .i64 x] 37 (0, 0)) := (Below.heap_alloc _ _ _ (by omega)).trans (MapKept.heap_alloc w _).1
  have h1 := (MapKept.heap_alloc (w.alloc (.cells #[.slice A n c, .int .i64 x] 37)) (.cells #[.slice A2 n c2, .int .i64 x] 37)).1
  rw [hsz] at h1
  have B2 := Lib.hid b2
  have H0 := Lib.hid h0
  have H1 := Lib.hid h1
  clear b1 b2 hsz h0 h1
  go_enter Tryz.func13, Tryz.ntmps13
  go_wp2
  go_loopw [5] (fun i wr => ∃ k : Nat, k ≤ n ∧ i = .int .i64 k ∧ Hid (Below (w.heap.size + 2) ((w.alloc (.cells #[.slice A n c, .int .i64 x] 37)).alloc (.cells #[.slice A2 n c2, .int .i64 x] 37)) wr)) (fun i _ => n - (intOf i).toNat)
  case atStart => exact ⟨0, by omega, rfl, Below.refl _ _⟩
  case round =>
    obtain ⟨k, hk, rfl, HB⟩ := hrel
    have g0 := (HB.out.block _ (by omega)).trans H0.out
    have g1 := (HB.out.block _ (by omega)).trans H1.out
    have k0 : wr.cell? ⟨w.heap.size, 0, none⟩ = some (.slice A n c) := by rw [cell_of_row wr w.heap.size 0 _ _ _ g0]; rfl
    have k1 : wr.cell? ⟨w.heap.size + 1, 0, none⟩ = some (.slice A2 n c2) := by rw [cell_of_row wr (w.heap.size + 1) 0 _ _ _ g1]; rfl
    have hbel := B2.out.trans (HB.out.mono (by omega))
    have HBel := Lib.hid hbel
    clear g0 g1
    by_cases hlt : k < n
    · have hkl : k < l.length := by have := HL.out; omega
      obtain ⟨b, off, rfl, hb, hcell⟩ := HI.out.row.lit (by rw [i64s_length]; omega)
      obtain ⟨b2, off2, rfl, hb2, hcell2⟩ := HI2.out.row.lit (by rw [i64s_length]; omega)
      have hc0 : wr.cell? ⟨b, off + k, none⟩ = some (.int .i64 l[k]) := (hbel.cell (p := ⟨b, off + k, none⟩) hb).trans (hcell _ _ (i64s_at l k hkl))
      have hc2 : wr.cell? ⟨b2, off2 + k, none⟩ = some (.int .i64 l[k]) := (hbel.cell (p := ⟨b2, off2 + k, none⟩) hb2).trans (hcell2 _ _ (i64s_at l k hkl))
      clear hcell hcell2 hbel
      generalize l[k] = a at *
      go_wp2
      go_quiet (fail)
      go_wp2
      go_roundw
      case rel => exact ⟨k + 1, by omega, by go_num, below_drewN HB.out _⟩
      case measure => simp only [intOf]; omega
    · go_wp2
      go_ret
      exact ⟨rfl, HBel.out⟩

end Go.Proofs.YtajeelbeochojaaGreatDoor

/-
  Opening the arguments of a law: slices of bytes, of integers, of structs of two integers, as our own words for memory.
-/
namespace Go.Proofs.YtajeelbeochojaaGreatDoor
open Go.ChangeShapes Go.WideShapes Go.ChangeAt Go.RowKit Go.Deep
set_option linter.unusedVariables false
set_option linter.unusedSimpArgs false

section
variable {H : Type} {enc : TypeId × Value → H} {P : Program} {w : World} {base : Nat} {spare : Nat → Bool} {held : Bool}

theorem open_i64s {t e : TypeId} {A : Option Addr} {n c : Nat} {d : DataW H} {p : List MemPlace} (ht : P.underlying t = some (.slice e)) (he : P.underlying e = some (.int .i64)) (hC : P.cellsOf e = 1)
    (h : DataW.Trod enc P w base spare held t (.slice A n c) d p) : ∃ l : List Int, Ints w A n c l ∧ ∀ x ∈ l, -9223372036854775808 ≤ x ∧ x ≤ 9223372036854775807 := by
  obtain ⟨fuel, hf⟩ := h
  rcases open_ints ht he hC hf with ⟨hcs, _⟩ | ⟨x, l, c', zs, hcs, _, hl, hm, hz, _, hcell, hwz⟩
  · simp [Value.cells] at hcs
    obtain ⟨rfl, rfl, rfl⟩ := hcs
    exact ⟨[], Ints.nil w, by simp⟩
  · simp [Value.cells] at hcs
    obtain ⟨rfl, rfl, rfl⟩ := hcs
    have hlen : n ≤ zs.length := by rw [hz]; split <;> omega
    refine ⟨zs.take n, ⟨by simp; omega, hl, by simpa [maxLen] using hm, ?_⟩, fun z hz => bd_i64 (hwz z (List.mem_of_mem_take hz))⟩
    rw [i64s, List.map_take]
    exact (row_of_ints hcell).take n

end

end Go.Proofs.YtajeelbeochojaaGreatDoor

/-
  Opening the arguments of a law, second part: slices of slices of bytes.
-/
namespace Go.Proofs.YtajeelbeochojaaGreatDoor
open Go.ChangeShapes Go.WideShapes Go.ChangeAt Go.RowKit Go.Deep
set_option linter.unusedVariables false
set_option linter.unusedSimpArgs false

section
variable {H : Type} {enc : TypeId × Value → H} {P : Program} {w : World} {base : Nat} {held : Bool}

theorem weights_inner {e : TypeId} {d : DataW H} : ∀ {ds : List (DataW H)}, d ∈ ds → ∀ n ∈ d.weights P e, n ∈ DataW.weightsAll P e ds
  | [], h, _, _ => by cases h
  | y :: r, h, n, hn => by
    simp only [DataW.weightsAll, List.mem_append]
    rcases List.mem_cons.1 h with rfl | h
    · exact .inl hn
    · exact .inr (weights_inner h n hn)

end
end Go.Proofs.YtajeelbeochojaaGreatDoor

/-
  The reference's At.
-/
namespace Go.Proofs.YtajeelbeochojaaGreatDoor
open Go.RowKit
set_option linter.unusedVariables false
set_option linter.unusedSimpArgs false

set_option maxRecDepth 100000 in
theorem refAt_nil (b : Int) (A : Option Addr) (n c : Nat) (w : World) :
    Calls Tryz.prog 81 #[.int .i64 b, .agg #[.slice A n c, .int .i64 0]] w fun e w' => e = .returned (.agg #[.slice none 0 0, .int .i64 0]) ∧ Below w.heap.size w w' := by
  have b1 : Below w.heap.size w (w.alloc (.cells #[.slice A n c, .int .i64 0] 37)) := (Below.refl _ _).alloc (Nat.le_refl _) _
  have h1 := (MapKept.heap_alloc (w.alloc (.cells #[.slice A n c, .int .i64 0] 37)) (.cells #[.slice none 0 0, .int .i64 0] 37)).1
  have hs : (w.alloc (.cells #[.slice A n c, .int .i64 0] 37)).heap.size = w.heap.size + 1 := by simp
  rw [hs] at h1
  have H1 := Lib.hid h1
  have B1 := Lib.hid b1
  clear h1 b1 hs
  go_enter Tryz.func81, Tryz.ntmps81
  go_wp2
  refine bodyPost_ret (results_rf Tryz.results81 _ _ (w.heap.size + 1) (.slice none 0 0) (.int .i64 0) rfl H1.out) rfl ?_
  exact ⟨rfl, B1.out.alloc B1.out.size _⟩

theorem own_one (w W : World) (b : Int) (h : Below (w.heap.size + 1) (w.alloc (.cells #[.int .i64 b] 3)) W) : Hid (W.ownsRow w.heap.size 3 1 (.slice (some ⟨w.heap.size, 0, none⟩) 1 1) 1 [.int .i64 b]) :=
  ⟨rfl, .inr ⟨w.heap.size, 1, #[.int .i64 b], rfl, Nat.le_refl _, (h.block _ (by omega)).trans (MapKept.heap_alloc w _).1, Nat.le_refl _, by decide, rfl, rfl⟩⟩

end Go.Proofs.YtajeelbeochojaaGreatDoor

/-
  Layer 1's split: the encoding of an integer.
-/
namespace Go.Proofs.YtajeelbeochojaaGreatDoor
open Go.RowKit
set_option linter.unusedVariables false
set_option linter.unusedSimpArgs false


/-! ### the reference's Bytes -/
theorem encN_snoc (k n : Nat) : encN (k + 1) n = encN k n ++ [UInt8.ofNat (n / 256 ^ k)] := by
  induction k generalizing n with
  | zero => simp [encN]
  | succ k ih =>
    rw [show encN (k + 1 + 1) n = UInt8.ofNat n :: encN (k + 1) (n / 256) from rfl, ih, show encN (k + 1) n = UInt8.ofNat n :: encN k (n / 256) from rfl]
    simp [Nat.div_div_eq_div_mul, Nat.pow_succ, Nat.mul_comm]

set_option maxRecDepth 100000 in
set_option maxHeartbeats 400000 in
theorem Bytes_any (n : Nat) (k : Nat) (w : World) (hn : n < 9223372036854775808) (hk : k ≤ 8) :
    Calls Tryz.prog 78 #[.int .i64 n, .int .i64 k] w fun e w' => ∃ v', e = .returned v' ∧ w'.ownsRow w.heap.size 5 1 v' k (u8s (encN k n)) ∧ Below w.heap.size w w' := by
  go_enter Tryz.func78, Tryz.ntmps78
  go_wp2
  go_loopw [0, 5, 6] (fun a v i wr => ∃ j : Nat, j ≤ k ∧ i = .int .i64 j ∧ (∃ q : Nat, q < 9223372036854775808 ∧ a = .int .i64 q ∧ q = n / 256 ^ j) ∧ Hid (wr.ownsRow w.heap.size 5 1 v j (u8s (encN j n))) ∧ w.heap.size ≤ wr.heap.size ∧ Below w.heap.size w wr) (fun _ _ i _ => (k - (intOf i).toNat))
  case atStart => exact ⟨0, by omega, rfl, ⟨n, hn, rfl, by simp⟩, World.ownsRow_nil _ _ _ _, Nat.le_refl _, Below.refl _ _⟩
  case round =>
    obtain ⟨j, hj, rfl, ⟨q, hq, rfl, hqe⟩, hown, hbr, hbel⟩ := hrel
    have HQ := Lib.hid hqe
    clear hqe
    by_cases hlt : j < k
    · go_wp2_with (at_builtin; go_must (refine wpList_append_new wr rfl (.tmp 12) (.tmp 16) _ rfl w.heap.size 5 _ _ 1 Tryz.underlying22 info_u8 rfl u5 _ _ rfl hown hbr [_] 1 1 rfl rfl (by simp [Value.oneCell']) (by omega) (by omega) ?_); intro v1 w1 hown1 hb1 hg1)
      go_roundw
      case rel =>
        refine ⟨j + 1, by omega, by go_num, ⟨q / 256, by omega, by go_num, by rw [HQ.out, Nat.div_div_eq_div_mul, Nat.pow_succ]⟩, ?_, hb1, hbel.trans (hg1.mono (by omega))⟩
        rw [encN_snoc, u8s_append, ← HQ.out]
        simpa [u8s] using hown1
      case measure => simp [intOf]; omega
    · go_wp2
      go_ret
      obtain rfl : j = k := by omega
      exact ⟨_, rfl, hown.out, hbel⟩

end Go.Proofs.YtajeelbeochojaaGreatDoor

/-
  Results that are structs in variables: a superblock or a node beside an error; a slice beside an error.
-/
namespace Go.Proofs.YtajeelbeochojaaGreatDoor
open Go.RowKit
set_option linter.unusedVariables false
set_option linter.unusedSimpArgs false

theorem blk_resT {P : Program} {fn : Func} {p q : Tmp} {t2 : TypeId} (h : fn.results = #[.tmp p, .cell q t2]) (tmps : Array Value) (w : World) {b : Addr} {u : Value}
    (hq : tmps.getD q undef = .pointer (some b)) (h2 : (loadVar t2 b).run P w = .ok u w) : (results fn tmps).run P w = .ok (.tuple #[tmps.getD p undef, u]) w := by
  have hq' : tmps[q]?.getD undef = .pointer (some b) := by simpa using hq
  simp [results, h, hq', asAddr, h2, Result.andThen, Sem.run_bind]

end Go.Proofs.YtajeelbeochojaaGreatDoor

/-
  CRC-32C on natural numbers: the step, its linearity, bytes, bursts. Nothing here names the program.
-/
namespace Go.Proofs.YtajeelbeochojaaGreatDoor.Crc
set_option linter.unusedVariables false
set_option linter.unusedSimpArgs false

/-- the checksum of a checksum with bytes behind -/
def more (s : Nat) (l : List UInt8) : Nat := feed (s ^^^ ones) l ^^^ ones
end Go.Proofs.YtajeelbeochojaaGreatDoor.Crc

/-
  Layer 3's block, Read, Write.
-/
namespace Go.Proofs.YtajeelbeochojaaGreatDoor
open Go.RowKit
set_option linter.unusedVariables false
set_option linter.unusedSimpArgs false

theorem blk_length {L : List UInt8} {n k : Nat} (hn : L.length = n * 256) (hk : k < n) : (blk L k).length = 256 := by
  simp only [blk, List.length_take, List.length_drop]
  omega

end Go.Proofs.YtajeelbeochojaaGreatDoor

/-
  Layer 3's example; strings of bytes.
-/
namespace Go.Proofs.YtajeelbeochojaaGreatDoor
open Go.RowKit
set_option linter.unusedVariables false
set_option linter.unusedSimpArgs false

theorem blk_take {l : List UInt8} {q j : Nat} (h : j < q) : blk (l.take (q * 256)) j = blk l j := by
  unfold blk
  rw [List.drop_take, List.take_take]
  congr 1
  omega

theorem blk_splice {L lc : List UInt8} {q kk j : Nat} (hL : L.length = q * 256) (hc : lc.length = 256) (hk : kk < q) (hj : j < q) : blk (splice L (kk * 256) lc) j = if j = kk then lc else blk L j := by
  apply List.ext_getElem
  · split
    · rw [blk_length (n := q) (by rw [length_splice _ _ _ (by omega), hL]) hj, hc]
    · rw [blk_length (n := q) (by rw [length_splice _ _ _ (by omega), hL]) hj, blk_length hL hj]
  · intro i h1 h2
    have hi : i < 256 := by
      rw [blk_length (n := q) (by rw [length_splice _ _ _ (by omega), hL]) hj] at h1
      exact h1
    have hl : (L.take (kk * 256)).length = kk * 256 := by rw [List.length_take]; omega
    split
    · next e =>
      subst e
      simp only [blk, splice, List.getElem_take, List.getElem_drop]
      rw [List.getElem_append_right (by omega), List.getElem_append_left (by omega)]
      congr 1
      omega
    · next e =>
      simp only [blk, splice, List.getElem_take, List.getElem_drop]
      by_cases hlt : j < kk
      · rw [List.getElem_append_left (by omega), List.getElem_take]
      · rw [List.getElem_append_right (by omega), List.getElem_append_right (by omega), List.getElem_drop]
        exact getElem_congr_idx (by omega)

end Go.Proofs.YtajeelbeochojaaGreatDoor

/-
  The reference's image in memory: a list of strings behind a pointer; its New.
-/
namespace Go.Proofs.YtajeelbeochojaaGreatDoor
open Go.RowKit
set_option linter.unusedVariables false
set_option linter.unusedSimpArgs false

theorem txts_append (L M : List (List UInt8)) : txts (L ++ M) = txts L ++ txts M := by simp [txts]
theorem txts_one (L : List (List UInt8)) : ∀ u ∈ txts L, u.oneCell' = true := by
  intro u hu
  obtain ⟨_, _, rfl⟩ := List.mem_map.1 hu
  rfl
theorem txts_at (L : List (List UInt8)) (k : Nat) (h : k < L.length) : (txts L)[k]? = some (txt L[k]) := by simp [txts, h]

theorem RImg.form {w : World} {B p : Nat} {v : Value} {L : List (List UInt8)} (h : RImg w B p v L) : ∃ A c, v = .slice A L.length c ∧ L.length ≤ c ∧ c ≤ 9223372036854775807 ∧ w.cell? ⟨p, 0, none⟩ = some (.slice A L.length c) ∧ Row w A (txts L) := by
  obtain ⟨A, c, rfl, h1, h2⟩ := ownsRow_form h.own
  refine ⟨A, c, rfl, h1, by simpa [maxLen] using h2, ?_, Row.of_own h.own⟩
  rw [cell_of_row w p 0 _ _ _ h.hp]
  rfl
theorem info_string : (Tryz.prog.info? 9).map (fun i => (i.zero, i.size, i.bytes)) = some (some (.string ByteArray.empty), 1, 16) := by kernel_rfl
theorem build_ref (w : World) : (Instr.build 76 #[]).run Tryz.prog w = .ok (.agg #[.slice none 0 0]) w := run_build w _ _ _ (by kernel_rfl)

end Go.Proofs.YtajeelbeochojaaGreatDoor

/-
  The reference's Bytes, Read.
-/
namespace Go.Proofs.YtajeelbeochojaaGreatDoor
open Go.RowKit
set_option linter.unusedVariables false
set_option linter.unusedSimpArgs false

theorem strCells_txt (l : List UInt8) : Lib.strCells ⟨l.toArray⟩ = u8s l := by simp [Lib.strCells, u8s]

theorem flatten_take_succ (L : List (List UInt8)) (k : Nat) (h : k < L.length) : (L.take (k + 1)).flatten = (L.take k).flatten ++ L[k] := by
  rw [List.take_succ_eq_append_getElem h, List.flatten_append]
  simp
theorem flatten_take_le (L : List (List UInt8)) (k : Nat) : (L.take k).flatten.length ≤ L.flatten.length := by
  conv => rhs; rw [← List.take_append_drop k L, List.flatten_append, List.length_append]
  omega

set_option maxRecDepth 100000 in
set_option maxHeartbeats 1600000 in
theorem refBytes_any {B p : Nat} {v : Value} {L : List (List UInt8)} (w : World) (h : RImg w B p v L) (hm : L.flatten.length ≤ 3686400) :
    Calls Tryz.prog 26 #[.pointer (some ⟨p, 0, none⟩)] w fun e w' => ∃ A c, e = .returned (.slice A L.flatten.length c) ∧ Bytes8 w' A L.flatten.length c L.flatten ∧ Below w.heap.size w w' := by
  obtain ⟨A, c, rfl, hcap, hmost, hcell, hrow⟩ := h.form
  obtain ⟨i0, hi0, hz0, hz1, hz2⟩ := info_parts info_u8
  have hp := h.plt
  have HRw := Lib.hid hrow
  have HM := Lib.hid hm
  have HB : Hid (∀ W, Below w.heap.size w W → W.cell? ⟨p, 0, none⟩ = some (.slice A L.length c)) := fun W hb => (hb.cell (p := ⟨p, 0, none⟩) hp).trans hcell
  obtain ⟨n, hn⟩ : ∃ n, n = L.length := ⟨_, rfl⟩
  have HN := Lib.hid hn
  rw [← hn] at hcap hcell HB
  clear h hrow hm hn
  go_enter Tryz.func26, Tryz.ntmps26
  go_wp2
  go_loopw [3, 4] (fun s i wr => ∃ j : Nat, j ≤ n ∧ i = .int .i64 j ∧ Below w.heap.size w wr ∧ Hid (wr.ownsRow w.heap.size 5 1 s (L.take j).flatten.length (u8s (L.take j).flatten))) (fun _ i _ => n - (intOf i).toNat)
  case atStart => exact ⟨0, by omega, rfl, Below.refl _ _, World.ownsRow_nil _ _ _ _⟩
  case round =>
    obtain ⟨j, hj, rfl, hbel, hown⟩ := hrel
    have hc0 := HB.out _ hbel
    by_cases hlt : j < n
    · have hjl : j < L.length := by have := HN.out; omega
      obtain ⟨b, off, rfl, hb, hcs⟩ := HRw.out.lit (by rw [txts_length]; omega)
      have hc1 : wr.cell? ⟨b, off + j, none⟩ = some (.string ⟨L[j].toArray⟩) := (hbel.cell (p := ⟨b, off + j, none⟩) hb).trans (hcs j _ (txts_at L j hjl))
      have hlen : (L.take (j + 1)).flatten.length ≤ 3686400 := Nat.le_trans (flatten_take_le L (j + 1)) HM.out
      rw [flatten_take_succ L j hjl, List.length_append] at hlen
      have HF := Lib.hid (flatten_take_succ L j hjl)
      have hsz := hbel.size
      have HT := Lib.hid (strCells_txt L[j])
      have hsl : (ByteArray.mk L[j].toArray).size = L[j].length := by simp [ByteArray.size]
      clear hcs
      generalize L[j] = t at *
      go_wp2_with (at_builtin; go_must (refine Lib.wpList_append_own_string wr rfl _ _ 22 9 rfl w.heap.size 5 i0 Tryz.underlying22 Tryz.underlying9 hi0 hz0 hz1 hz2 u3 _ _ rfl hown.out ⟨t.toArray⟩ rfl (by rw [hsl]; simp only [maxLen]; omega) (by rw [hsl]; omega) hsz ?_; intro v2 w2 hown2 hg2 _; have hb2 := (Below.refl w.heap.size wr).grown hg2 hsz (fun k hk => (hown.out.lt k hk).1)))
      go_roundw
      case rel =>
        refine ⟨j + 1, by omega, by go_num, hbel.trans hb2, ?_⟩
        rw [HF.out, List.length_append, u8s_append, ← HT.out, ← hsl]
        exact hown2
      case measure => simp [intOf]; omega
    · obtain rfl : j = n := by omega
      have hx := hown.out
      rw [List.take_of_length_le (by have := HN.out; omega)] at hx
      obtain ⟨A', c', hv, hB⟩ := Bytes8.of_own hx
      rw [hv]
      clear hown hx
      go_wp2
      go_ret
      exact ⟨A', c', rfl, hB, hbel⟩

end Go.Proofs.YtajeelbeochojaaGreatDoor

/-
  The reference's Of.
-/
namespace Go.Proofs.YtajeelbeochojaaGreatDoor
open Go.RowKit
set_option linter.unusedVariables false
set_option linter.unusedSimpArgs false

/-- the first q blocks -/
def blks (l : List UInt8) (q : Nat) : List (List UInt8) := (List.range q).map (blk l)
theorem blks_length (l : List UInt8) (q : Nat) : (blks l q).length = q := by simp [blks]
theorem blks_succ (l : List UInt8) (q : Nat) : blks l (q + 1) = blks l q ++ [blk l q] := by simp [blks, List.range_succ]

/-- a slice value's length -/
def lenS : Value → Nat | .slice _ m _ => m | _ => 0

theorem cut_on {w : World} {b off m d j : Nat} {l : List UInt8} (h : Bytes8 w (some ⟨b, off, none⟩) m d (l.drop (256 * j))) (hm : 256 ≤ m) : Bytes8 w (some ⟨b, off + 256, none⟩) (m - 256) (d - 256) (l.drop (256 * (j + 1))) := by
  have h1 := h.len
  have h2 := h.cap
  have h3 := h.most
  have h4 := h.row.drop 256
  rw [u8s_drop, List.drop_drop] at h4
  refine ⟨?_, by omega, by omega, by simpa [Addr.add_lit, Nat.mul_add] using h4⟩
  rw [List.length_drop] at h1 ⊢
  omega

theorem cut_end {w : World} {b off j : Nat} {l : List UInt8} (h : Bytes8 w (some ⟨b, off, none⟩) 256 256 (l.drop (256 * j))) : Bytes8 w (some ⟨b, off, none⟩) 0 0 (l.drop (256 * (j + 1))) := by
  have h1 := h.len
  rw [List.length_drop] at h1
  rw [List.drop_of_length_le (by omega)]
  exact ⟨rfl, Nat.le_refl _, by omega, Row.nil _ _⟩

set_option maxRecDepth 100000 in
set_option maxHeartbeats 4000000 in
theorem refOf_any (A : Option Addr) (n c : Nat) (l : List UInt8) (w : World) (h : Bytes8 w A n c l) (hn : n ≤ 12000) :
    Calls Tryz.prog 8 #[.slice A n c] w fun e w' => ∃ v, e = .returned (.pointer (some ⟨w.heap.size, 0, none⟩)) ∧ RImg w' w.heap.size w.heap.size v (blks l (n / 256)) ∧ Below w.heap.size w w' := by
  have kb := build_ref
  have h0 := RImg.new w
  have hb0 : Below w.heap.size w (w.alloc (.cells #[.slice none 0 0] 76)) := (Below.refl _ _).alloc (Nat.le_refl _) _
  have HB := Lib.hid h
  clear h
  go_enter Tryz.func8, Tryz.ntmps8
  go_wp2
  go_loopw [0] (fun s wr => ∃ (j m d : Nat) (D : Option Addr), m + 256 * j = n ∧ s = .slice D m d ∧ Below w.heap.size w wr ∧ Hid (Bytes8 w D m d (l.drop (256 * j))) ∧ Hid (∃ v, RImg wr w.heap.size w.heap.size v (blks l j))) (fun s _ => lenS s)
  case atStart => exact ⟨0, n, c, A, by omega, rfl, hb0, HB, _, h0⟩
  case round =>
    obtain ⟨j, m, d, D, hm, rfl, hbel, HD, hR⟩ := hrel
    obtain ⟨v, hR⟩ := hR.out
    obtain ⟨A1, c1, hv1, hc2, hc3, hcell, hrow⟩ := hR.form
    rw [blks_length] at hv1 hc2 hcell
    have hm2 : m ≤ 12000 := by omega
    have hjj : j < 14400 := by omega
    have hd1 := HD.out.cap
    have hd2 := HD.out.most
    by_cases hlt : 256 ≤ m
    · obtain ⟨b, off, rfl, hb, hlit⟩ := HD.out.row.lit (by rw [u8s_length, HD.out.len]; omega)
      have HR := Lib.hid hR
      have hown : Hid (wr.ownsRow (w.heap.size + 1) 9 1 (.slice A1 j c1) j (txts (blks l j))) := by have := hR.own; rw [blks_length, hv1] at this; exact this
      have hsz := hR.plt
      have hcv : ∀ W, Below wr.heap.size wr W → (convert 22 9 (.slice (some ⟨b, off, none⟩) 256 d)).run Tryz.prog W = .ok (.string ⟨(blk l j).toArray⟩) W := fun W hW => by
        have h1 := (HD.out.below hbel).below hW
        refine run_str ⟨?_, by omega, hd2, ?_⟩
        · have := h1.len
          simp only [List.length_drop] at this
          simp only [blk, List.length_take, List.length_drop]; omega
        · have := h1.row.take 256
          rw [u8s_take, Nat.mul_comm] at this
          exact this
      have hcv0 := hcv wr (Below.refl _ _)
      have hcv1 := hcv wr.drew ((Below.refl _ _).drew)
      have HO : Hid (∀ W, Below wr.heap.size wr W → Hid (W.ownsRow (w.heap.size + 1) 9 1 (.slice A1 j c1) j (txts (blks l j)))) := fun W hW => own_below hown hW
      have hdI : (256 : Int) ≤ (d : Int) := by omega
      obtain ⟨t, ht⟩ : ∃ t, t = blk l j := ⟨_, rfl⟩
      rw [← ht] at hcv0 hcv1
      have HT := Lib.hid ht
      clear ht
      clear hR hrow hlit hv1 hcv
      go_wp2
      go_region_law (first
        | (refine step_append_row _ rfl (.tmp 21) (.tmp 25) 74 rfl (w.heap.size + 1) 9 (.string ByteArray.empty) 16 Tryz.underlying74 info_string rfl (.slice A1 j c1) j (txts (blks l j)) rfl (HO.out _ (((Below.refl _ _).alloc (Nat.le_refl _) _).drew)) (by show _ ≤ (wr.heap.push _).size; rw [Array.size_push]; omega) (some ⟨wr.heap.size, 0, none⟩) [.string ⟨t.toArray⟩] 1 1 rfl rfl (Row.of_block (t := 9) (fr := (0, 0)) (heap_alloc_new wr _)) (txts_one [t]) (by omega) (by omega) ?_
           intro v2 w2 hown2 hs2 hb2
           have hb3 : Below (w.heap.size + 1) wr w2 := (((Below.refl (w.heap.size + 1) wr).alloc (by omega) _).drew).trans hb2
           have hp2 : Hid (w2.heap[w.heap.size]? = _) := (hb3.block w.heap.size (by omega)).trans HR.out.hp
           have hc2 : w2.cell? ⟨w.heap.size, 0, none⟩ = some (.slice A1 j c1) := (hb3.cell (p := ⟨w.heap.size, 0, none⟩) (by simp)).trans hcell
           have hf2 : w2.frozen? ⟨w.heap.size, 0, none⟩ = false := frozen_of_row w2 w.heap.size 0 _ _ hp2.out
           obtain ⟨A2, c2, hv2, h62, h63⟩ := ownsRow_form hown2.out
           rw [hv2]))
      all_goals
        have hx := hown2.out
        rw [hv2] at hx
        have hx2 : w2.ownsRow (w.heap.size + 1) 9 1 (.slice A2 (j + 1) c2) (blks l (j + 1)).length (txts (blks l (j + 1))) := by
          rw [blks_length, blks_succ, txts_append, ← HT.out]
          exact hx
        have HX : Hid (RImg (w2.setCell ⟨w.heap.size, 0, none⟩ (.slice A2 (j + 1) c2)) w.heap.size w.heap.size (.slice A2 (j + 1) c2) (blks l (j + 1))) := RImg.put (Nat.le_refl _) hp2.out hx2
        have hb9 : Below w.heap.size w (w2.setCell ⟨w.heap.size, 0, none⟩ (.slice A2 (j + 1) c2)) := (hbel.trans (hb3.mono (by omega))).setCell (by simp) _
        clear hx hx2 hown2 hb2 hb3 hcv0 hcv1
        by_cases hd : d = 256
        · have hm0 : m = 256 := by omega
          subst hd hm0
          go_wp2
          go_roundw
          case rel => exact ⟨j + 1, 0, 0, some ⟨b, off, none⟩, by omega, rfl, hb9, cut_end HD.out, _, HX⟩
          case measure => simp [lenS]
        · go_wp2
          go_roundw
          case rel => exact ⟨j + 1, m - 256, d - 256, some ⟨b, off + 256, none⟩, by omega, rfl, hb9, cut_on HD.out hlt, _, HX⟩
          case measure => simp [lenS]; omega
    · have hlt2 : ¬ (256 : Int) ≤ (m : Int) := by omega
      have hjq : j = n / 256 := by omega
      have HJ := Lib.hid hjq
      clear hjq hlt
      go_wp2
      go_ret
      rw [← HJ.out]
      exact ⟨rfl, ⟨_, hR⟩, hbel⟩

end Go.Proofs.YtajeelbeochojaaGreatDoor

/-
  The reference's Read, Write.
-/
namespace Go.Proofs.YtajeelbeochojaaGreatDoor
open Go.RowKit
set_option linter.unusedVariables false
set_option linter.unusedSimpArgs false

set_option maxRecDepth 100000 in
set_option maxHeartbeats 800000 in
theorem refWrite_bad {B p : Nat} {v : Value} {L : List (List UInt8)} (k : Int) (A2 : Option Addr) (m c2 : Nat) (w : World) (h : RImg w B p v L) (hk : k < 0 ∨ (L.length : Int) ≤ k) :
    Calls Tryz.prog 59 #[.pointer (some ⟨p, 0, none⟩), .int .i64 k, .slice A2 m c2] w fun e w' => e = .returned (.int .i64 3) ∧ w = w' := by
  obtain ⟨A, c, rfl, hcap, hmost, hcell, hrow⟩ := h.form
  clear h hrow
  generalize L.length = n at *
  by_cases h0 : k < 0
  · clear hk
    go_enter Tryz.func59, Tryz.ntmps59
    go_wp2
    go_ret
    exact ⟨rfl, rfl⟩
  · have h1 : (n : Int) ≤ k := by omega
    clear hk
    go_enter Tryz.func59, Tryz.ntmps59
    go_wp2
    go_ret
    exact ⟨rfl, rfl⟩

end Go.Proofs.YtajeelbeochojaaGreatDoor

/-
  Layer 2's step, and the reference's eight steps.
-/
namespace Go.Proofs.YtajeelbeochojaaGreatDoor
open Go.RowKit
set_option linter.unusedVariables false
set_option linter.unusedSimpArgs false


theorem step_odd64 (n : Nat) (h : n < 4294967296) (ho : n % 2 = 1) : bits .xor .i64 ((n : Int) / 2) 2197175160 = (Crc.step n : Int) := by
  have := i64_xor_nat (n / 2) 2197175160 (by omega) (by omega)
  rw [show ((n / 2 : Nat) : Int) = (n : Int) / 2 by omega] at this
  rw [show Crc.step n = n / 2 ^^^ 2197175160 by simp [Crc.step, Crc.poly, ho]]
  exact this

set_option maxRecDepth 100000 in
set_option maxHeartbeats 400000 in
theorem refStep_any (n : Nat) (h : n < 4294967296) (w : World) :
    Calls Tryz.prog 103 #[.int .i64 (n : Int)] w fun e w' => e = .returned (.int .i64 (Crc.it 8 n : Int)) ∧ w = w' := by
  go_enter Tryz.func103, Tryz.ntmps103
  go_wp2
  go_loop [0, 3] (fun r i => ∃ k m : Nat, k ≤ 8 ∧ i = .int .i64 k ∧ r = .int .i64 m ∧ m < 4294967296 ∧ Hid (m = Crc.it k n)) (fun _ i => 8 - (intOf i).toNat)
  case atStart => exact ⟨0, n, by omega, rfl, rfl, h, rfl⟩
  case round =>
    obtain ⟨k, m, hk, rfl, rfl, hm, HM⟩ := hrel
    by_cases hlt : k < 8
    · have HS : Hid (Crc.step m = Crc.it (k + 1) n) := by rw [Crc.it_succ, ← HM.out]; rfl
      have hl := Crc.step_lt hm
      rcases Nat.mod_two_eq_zero_or_one m with ho | ho
      · have Hs := Lib.hid (step_even m ho)
        have hz : (m : Int) % 2 = 0 := by omega
        go_wp2
        go_round
        case rel => exact ⟨k + 1, Crc.step m, by omega, by go_num, by rw [← Hs.out], hl, HS⟩
        case measure => simp [intOf]; omega
      · have Hs := Lib.hid (step_odd64 m hm ho)
        have hz : (m : Int) % 2 = 1 := by omega
        go_wp2
        go_round
        case rel => exact ⟨k + 1, Crc.step m, by omega, by go_num, by rw [← Hs.out], hl, HS⟩
        case measure => simp [intOf]; omega
    · obtain rfl : k = 8 := by omega
      go_wp2
      go_ret
      exact ⟨ret_int (by rw [HM.out]), rfl⟩

end Go.Proofs.YtajeelbeochojaaGreatDoor

/-
  Layer 4's small functions: isKind, isNumber, Salt, unless, stored, sum; the reference's Salt and known.
-/
namespace Go.Proofs.YtajeelbeochojaaGreatDoor
open Go.RowKit
set_option linter.unusedVariables false
set_option linter.unusedSimpArgs false

set_option maxRecDepth 100000 in
theorem refKnown_any (k no : Int) (w : World) (r : Bool) (hr : knownB k no = r) :
    Calls Tryz.prog 77 #[.int .i64 k, .int .i64 no] w fun e w' => e = .returned (.bool r) ∧ w = w' := by
  subst hr
  go_enter Tryz.func77, Tryz.ntmps77
  go_wp2
  all_goals go_ret
  all_goals refine ⟨ret_bool ?_, rfl⟩
  all_goals (rw [Bool.eq_iff_iff]; simp [knownB, kindB, snumB]; try omega)

set_option maxRecDepth 100000 in
theorem refSalt_any (x : Int) (w : World) :
    Calls Tryz.prog 80 #[.int .i64 x] w fun e w' => e = .returned (.int .i64 (saltN x : Int)) ∧ Below w.heap.size w w' := by
  by_cases h0 : x < 0
  · have E : Hid (saltN x = 0) := by simp only [Hid, saltN]; rw [if_neg (by omega), if_neg (by omega), if_neg (by omega), if_neg (by omega)]
    go_enter Tryz.func80, Tryz.ntmps80
    go_wp2
    go_ret
    exact ⟨ret_int (by rw [E.out]; rfl), (Below.refl _ _).alloc (Nat.le_refl _) _⟩
  by_cases h5 : 4 < x
  · have E : Hid (saltN x = 0) := by simp only [Hid, saltN]; rw [if_neg (by omega), if_neg (by omega), if_neg (by omega), if_neg (by omega)]
    go_enter Tryz.func80, Tryz.ntmps80
    go_wp2
    go_ret
    exact ⟨ret_int (by rw [E.out]; rfl), (Below.refl _ _).alloc (Nat.le_refl _) _⟩
  rcases (show x = 0 ∨ x = 1 ∨ x = 2 ∨ x = 3 ∨ x = 4 by omega) with rfl | rfl | rfl | rfl | rfl
  all_goals clear h0 h5
  all_goals go_enter Tryz.func80, Tryz.ntmps80
  all_goals go_wp2
  all_goals go_ret
  all_goals exact ⟨rfl, (Below.refl _ _).alloc (Nat.le_refl _) _⟩

end Go.Proofs.YtajeelbeochojaaGreatDoor

/-
  Layer 2's Table; the reference's Sum and More; the document's example.
-/
namespace Go.Proofs.YtajeelbeochojaaGreatDoor
open Go.RowKit
set_option linter.unusedVariables false
set_option linter.unusedSimpArgs false

set_option maxRecDepth 100000 in
set_option maxHeartbeats 800000 in
theorem refMore_good (s : Nat) (A : Option Addr) (n c : Nat) (l : List UInt8) (w : World) (h : Bytes8 w A n c l) (hs : s < 4294967296) :
    Calls Tryz.prog 96 #[.int .i64 (s : Int), .slice A n c] w fun e w' => e = .returned (.int .i64 (Crc.more s l : Int)) ∧ w = w' := by
  have hm := h.le
  have hx0 : bits .xor .i64 (s : Int) 4294967295 = ((s ^^^ Crc.ones : Nat) : Int) := i64_xor_nat s 4294967295 (by omega) (by omega)
  have hz := Crc.xor_lt hs Crc.ones_lt
  have HZ : Hid (Crc.feed (s ^^^ Crc.ones) l ^^^ Crc.ones = Crc.more s l) := rfl
  generalize s ^^^ Crc.ones = z at *
  have END : Hid (∀ m : Nat, m < 4294967296 → bits .xor .i64 (m : Int) 4294967295 = ((m ^^^ Crc.ones : Nat) : Int)) := fun m hm => i64_xor_nat m 4294967295 (by omega) (by omega)
  by_cases hp : 0 < n
  · obtain ⟨b, off, rfl, hb, hcell⟩ := h.row.lit (by rw [u8s_length, h.len]; omega)
    have HC := Lib.hid hcell
    have HL := Lib.hid h.len
    clear h hcell
    go_enter Tryz.func96, Tryz.ntmps96
    go_wp2
    go_loop [5, 6] (fun r i => ∃ k m : Nat, k ≤ n ∧ i = .int .i64 k ∧ r = .int .i64 m ∧ m < 4294967296 ∧ Hid (m = Crc.feed z (l.take k))) (fun _ i => n - (intOf i).toNat)
    case atStart => exact ⟨0, z, by omega, rfl, rfl, hz, rfl⟩
    case round =>
      obtain ⟨k, m, hk, rfl, rfl, hmm, HM⟩ := hrel
      by_cases hlt : k < n
      · have hkl : k < l.length := by have := HL.out; omega
        have hcu := UInt8.toNat_lt l[k]
        have hst : Hid (Crc.it 8 (m ^^^ l[k].toNat) = Crc.feed z (l.take (k + 1))) := by rw [Crc.feed_take_succ _ _ _ hkl, ← HM.out]; rfl
        have hc0 : w.cell? ⟨b, off + k, none⟩ = some (.int .u8 (l[k].toNat : Int)) := HC.out k _ (u8s_at l k hkl)
        have hul := Crc.upd_lt hmm l[k]
        unfold Crc.upd at hul
        generalize l[k].toNat = u at *
        have hxl : m ^^^ u < 4294967296 := Crc.xor_lt hmm (by omega)
        have e1 := i64_xor_nat m u (by omega) (by omega)
        have S := Lib.hid (fun W => refStep_any (m ^^^ u) hxl W)
        generalize m ^^^ u = x at *
        generalize Crc.it 8 x = ix at *
        go_wp2_with (go_at_call 103; refine (S.out _).mono ?_; rintro e w' ⟨rfl, rfl⟩)
        go_round
        case rel => exact ⟨k + 1, ix, by omega, by go_num, rfl, hul, hst⟩
        case measure => simp [intOf]; omega
      · obtain rfl : k = n := by omega
        have HM2 : Hid (m = Crc.feed z l) := by
          have := HM.out
          rwa [List.take_of_length_le (by have := HL.out; omega)] at this
        have hx := END.out m hmm
        go_wp2
        go_ret
        exact ⟨ret_int (by rw [← HZ.out, HM2.out]), rfl⟩
  · obtain rfl : n = 0 := by omega
    obtain rfl : l = [] := List.eq_nil_of_length_eq_zero h.len
    have hx := END.out z hz
    clear h
    go_enter Tryz.func96, Tryz.ntmps96
    go_wp2
    refine wp_loop_rounds 1 ?_
    rw [rounds_succ]
    go_wp2
    go_ret
    exact ⟨ret_int (by rw [← HZ.out]; rfl), rfl⟩

set_option maxRecDepth 100000 in
set_option maxHeartbeats 400000 in
theorem refSum_any (A : Option Addr) (n c : Nat) (l : List UInt8) (w : World) (h : Bytes8 w A n c l) :
    Calls Tryz.prog 79 #[.slice A n c] w fun e w' => e = .returned (.int .i64 (Crc.sum l : Int)) ∧ w = w' := by
  have M := Lib.hid (refMore_good 0 A n c l w h (by omega))
  have E : Hid (Crc.more 0 l = Crc.sum l) := by
    show Crc.feed (0 ^^^ Crc.ones) l ^^^ Crc.ones = _
    rw [Nat.zero_xor]
    rfl
  clear h
  generalize Crc.more 0 l = x at *
  go_enter Tryz.func79, Tryz.ntmps79
  go_wp2_with (go_at_call 96; refine (M.out).mono ?_; rintro e w' ⟨rfl, rfl⟩)
  go_ret
  exact ⟨ret_int (by rw [E.out]), rfl⟩

end Go.Proofs.YtajeelbeochojaaGreatDoor

/-
  The reference's Seal.
-/
namespace Go.Proofs.YtajeelbeochojaaGreatDoor
open Go.RowKit
set_option linter.unusedVariables false
set_option linter.unusedSimpArgs false

set_option maxRecDepth 100000 in
theorem refSeal_bad (k no : Int) (A : Option Addr) (n c : Nat) (w : World) (r : Int) (h : sealE k no n = r) (hr : r ≠ 0) :
    Calls Tryz.prog 57 #[.int .i64 k, .int .i64 no, .slice A n c] w fun e w' => e = .returned (.tuple #[.slice none 0 0, .int .i64 r]) ∧ w = w' := by
  cases hk : knownB k no with
  | false =>
    obtain rfl : 1 = r := by rw [← h]; simp [sealE, hk]
    have K := Lib.hid (fun W => refKnown_any k no W false hk)
    clear h hr hk
    go_enter Tryz.func57, Tryz.ntmps57
    go_wp2_with (go_at_call 77; refine (K.out _).mono ?_; rintro e w' ⟨rfl, rfl⟩)
    go_ret2
    exact ⟨rfl, rfl⟩
  | true =>
    by_cases hn : 244 < n
    · obtain rfl : 2 = r := by rw [← h]; simp [sealE, hk, hn]
      have K := Lib.hid (fun W => refKnown_any k no W true hk)
      clear h hr hk
      go_enter Tryz.func57, Tryz.ntmps57
      go_wp2_with (go_at_call 77; refine (K.out _).mono ?_; rintro e w' ⟨rfl, rfl⟩)
      go_ret2
      exact ⟨rfl, rfl⟩
    · exact absurd (by rw [← h]; simp [sealE, hk, hn]) hr

/-- what stands behind j zeros -/
def partB (N K : Nat) (l : List UInt8) (j : Nat) : List UInt8 := encN 4 N ++ (encN 2 K ++ ([0, 0] ++ (l ++ List.replicate j 0)))
theorem partB_succ (N K : Nat) (l : List UInt8) (j : Nat) : partB N K l (j + 1) = partB N K l j ++ [0] := by
  simp only [partB, List.append_assoc]
  rw [List.replicate_succ']
theorem partB_zero (N K : Nat) (l : List UInt8) : u8s (encN 4 N) ++ u8s (encN 2 K) ++ [.int .u8 0, .int .u8 0] ++ u8s l = u8s (partB N K l 0) := by simp [partB, u8s]

def lenVS : Value → Nat
  | .slice _ n _ => n
  | _ => 0

set_option maxRecDepth 100000 in
set_option maxHeartbeats 1600000 in
theorem refSeal_good (k no : Int) (A : Option Addr) (n c : Nat) (l : List UInt8) (w : World) (h : Bytes8 w A n c l) (hs : sealE k no n = 0) :
    Calls Tryz.prog 57 #[.int .i64 k, .int .i64 no, .slice A n c] w fun e w' => ∃ A' m c', e = .returned (.tuple #[.slice A' m c', .int .i64 0]) ∧ Bytes8 w' A' m c' (sealB k no l) ∧ Below w.heap.size w w' := by
  obtain ⟨hkn, hn⟩ := sealE_zero hs
  have hb := knownB_iff.1 hkn
  have KN := Lib.hid (fun W => refKnown_any k no W true hkn)
  have hl := h.len
  have HSE : Hid (sealB k no l = bodyB k no l ++ encN 4 (Crc.sum (bodyB k no l) ^^^ saltN k)) := sealB_eq (by rw [hl]; exact hs)
  obtain ⟨N, rfl⟩ := Int.eq_ofNat_of_zero_le hb.2.1
  obtain ⟨K, rfl⟩ := Int.eq_ofNat_of_zero_le (show 0 ≤ k by omega)
  have HBY : Hid (∀ x m : Nat, x < 9223372036854775808 → m ≤ 8 → ∀ W, Calls Tryz.prog 78 #[.int .i64 x, .int .i64 m] W fun e w' => ∃ A' c', e = .returned (.slice A' m c') ∧ w'.ownsRow W.heap.size 5 1 (.slice A' m c') m (u8s (encN m x)) ∧ Bytes8 w' A' m c' (encN m x) ∧ Below W.heap.size W w') :=
    fun x m hx hm W => (Bytes_any x m W hx hm).mono fun e w' ⟨v', he, ho, hb⟩ => by
      obtain ⟨A', c', rfl, hB⟩ := Bytes8.of_own ho
      exact ⟨A', c', he, ho, hB, hb⟩
  have BY1 : Hid (∀ W, Calls Tryz.prog 78 #[.int .i64 N, .int .i64 4] W fun e w' => ∃ A' c', e = .returned (.slice A' 4 c') ∧ w'.ownsRow W.heap.size 5 1 (.slice A' 4 c') 4 (u8s (encN 4 N)) ∧ Bytes8 w' A' 4 c' (encN 4 N) ∧ Below W.heap.size W w') := HBY.out N 4 (by omega) (by omega)
  have BY2 : Hid (∀ W, Calls Tryz.prog 78 #[.int .i64 K, .int .i64 2] W fun e w' => ∃ A' c', e = .returned (.slice A' 2 c') ∧ w'.ownsRow W.heap.size 5 1 (.slice A' 2 c') 2 (u8s (encN 2 K)) ∧ Bytes8 w' A' 2 c' (encN 2 K) ∧ Below W.heap.size W w') := HBY.out K 2 (by omega) (by omega)
  have HB := Lib.hid h
  have HL := Lib.hid hl
  have HP0 := Lib.hid (partB_zero N K l)
  have HPE : Hid (partB N K l (244 - n) = bodyB (K : Int) (N : Int) l) := by rw [Hid, partB, bodyB, hl]; simp
  clear h hl hs hkn hb
  go_enter Tryz.func57, Tryz.ntmps57
  go_wp2_with (first
    | (go_at_call 77; refine (KN.out _).mono ?_; rintro e w' ⟨rfl, rfl⟩)
    | (go_at_call 78; (with_reducible refine (BY1.out _).mono ?_); rintro e w1 ⟨A1, c1, rfl, ho1, hB1, hb1⟩; have HO1 := Lib.hid ho1; clear ho1 hB1)
    | (go_at_call 78; (with_reducible refine (BY2.out _).mono ?_); rintro e w2 ⟨A2, c2, rfl, ho2, hB2, hb2⟩; have HB2 := Lib.hid hB2; have HO2 := own_below HO1 hb2; have hw2 := hb1.trans (hb2.mono hb1.size); clear ho2 hB2)
    | (at_builtin; refine wpList_append_row _ rfl (.tmp 18) (.tmp 20) 22 rfl w.heap.size 5 _ 1 Tryz.underlying22 info_u8 rfl _ _ _ rfl HO2 hw2.size _ (u8s (encN 2 K)) 2 c2 rfl (by rw [u8s_length, encN_length]) HB2.out.row (u8s_one _) (by omega) (by omega) ?_; intro v3 w3 HO3 hs3 hb3; have hw3 := hw2.trans hb3)
    | (at_builtin; refine wpList_append_new _ rfl (.tmp 22) (.tmp 23) 22 rfl w.heap.size 5 5 (.int .u8 0) 1 Tryz.underlying22 info_u8 rfl v3 6 _ rfl HO3 hs3 [.int .u8 0, .int .u8 0] 2 2 rfl rfl (by simp [Value.oneCell']) (by omega) (by omega) ?_; intro v4 w4 HO4 hs4 hb4; have hw4 := hw3.trans hb4)
    | (at_builtin; refine wpList_append_row _ rfl (.tmp 25) (.tmp 26) 22 rfl w.heap.size 5 _ 1 Tryz.underlying22 info_u8 rfl _ _ _ rfl HO4 hs4 A (u8s l) n c rfl (by rw [u8s_length, HL.out]) (HB.out.row.below hw4) (u8s_one _) (by omega) (by omega) ?_; intro v5 w5 HO5 hs5 hb5; have hw5 := hw4.trans hb5))
  have HO6 : Hid (w5.ownsRow w.heap.size 5 1 v5 (8 + n + 0) (u8s (partB N K l 0))) := by
    have := HO5.out
    rw [HP0.out] at this
    exact this
  have HBE : Hid (∀ W A' m' c', Bytes8 W A' m' c' (bodyB (K : Int) (N : Int) l) → Calls Tryz.prog 79 #[.slice A' m' c'] W fun e w' => e = .returned (.int .i64 (Crc.sum (bodyB (K : Int) (N : Int) l) : Int)) ∧ W = w') := fun W A' m' c' h => refSum_any A' m' c' _ W h
  have HSA := Lib.hid (fun W => refSalt_any (K : Int) W)
  have hx := xor_salt (Crc.sum (bodyB (K : Int) (N : Int) l)) (saltN (K : Int)) (Crc.sum_lt _) (saltN_lt _)
  have hxl := Crc.xor_lt (Crc.sum_lt (bodyB (K : Int) (N : Int) l)) (saltN_lt (K : Int))
  generalize Crc.sum (bodyB (K : Int) (N : Int) l) = x at *
  generalize saltN (K : Int) = y at *
  generalize x ^^^ y = z at *
  have BY3 : Hid (∀ W, Calls Tryz.prog 78 #[.int .i64 z, .int .i64 4] W fun e w' => ∃ A' c', e = .returned (.slice A' 4 c') ∧ w'.ownsRow W.heap.size 5 1 (.slice A' 4 c') 4 (u8s (encN 4 z)) ∧ Bytes8 w' A' 4 c' (encN 4 z) ∧ Below W.heap.size W w') := HBY.out z 4 (by omega) (by omega)
  clear HO1 HO2 HO3 HO4 HO5 HB2 BY1 BY2 HBY HP0 KN hb1 hb2 hb3 hb4 hb5 hw2 hw3 hw4 hs3 hs4
  go_loopw [8] (fun v wr => ∃ j : Nat, 8 + n + j ≤ 252 ∧ Hid (wr.ownsRow w.heap.size 5 1 v (8 + n + j) (u8s (partB N K l j))) ∧ w.heap.size ≤ wr.heap.size ∧ Below w.heap.size w wr) (fun v _ => 252 - lenVS v)
  case atStart => exact ⟨0, by omega, HO6, hs5, hw5⟩
  case round =>
    clear HO6 hs5 hw5
    obtain ⟨j, hj, hown, hs, hbel⟩ := hrel
    obtain ⟨A8, c8, rfl, hc8, hm8⟩ := ownsRow_form hown.out
    by_cases hlt : 8 + n + j < 252
    · go_wp2_with (at_builtin; refine wpList_append_new _ rfl (.tmp 31) (.tmp 32) 22 rfl w.heap.size 5 5 (.int .u8 0) 1 Tryz.underlying22 info_u8 rfl _ (8 + n + j) _ rfl hown hs [.int .u8 0] 1 1 rfl rfl (by simp [Value.oneCell']) (by omega) (by omega) ?_; intro v9 w9 HO9 hs9 hb9)
      have HO10 : Hid (w9.ownsRow w.heap.size 5 1 v9 (8 + n + (j + 1)) (u8s (partB N K l (j + 1)))) := by
        have := HO9.out
        rw [partB_succ, u8s_append]
        exact this
      obtain ⟨A9, c9, rfl, hc9, hm9⟩ := ownsRow_form HO10.out
      go_roundw
      case rel => exact ⟨j + 1, by omega, HO10, hs9, hbel.trans hb9⟩
      case measure => simp [lenVS]; omega
    · obtain rfl : j = 244 - n := by omega
      rw [HPE.out] at hown
      have hB8 : Bytes8 wr A8 (8 + n + (244 - n)) c8 (bodyB (K : Int) (N : Int) l) := by
        obtain ⟨A', c', e, h⟩ := Bytes8.of_own hown.out
        cases e
        exact h
      have HB8 := Lib.hid hB8
      clear hB8
      go_wp2_with (first
        | (go_at_call 79; (with_reducible refine (HBE.out _ _ _ _ HB8.out).mono ?_); rintro e w' ⟨rfl, rfl⟩)
        | (go_at_call 80; (with_reducible refine (HSA.out _).mono ?_); rintro e w10 ⟨rfl, hb10⟩; have hown10 := own_below hown hb10)
        | (go_at_call 78; (with_reducible refine (BY3.out _).mono ?_); rintro e w11 ⟨A11, c11, rfl, ho11, hB11, hb11⟩; have HB11 := Lib.hid hB11; have hown11 := own_below hown10 hb11; have hb1011 := hb10.trans (hb11.mono hb10.size); clear ho11 hB11)
        | (at_builtin; refine wpList_append_row _ rfl (.tmp 34) (.tmp 40) 22 rfl w.heap.size 5 _ 1 Tryz.underlying22 info_u8 rfl _ _ _ rfl hown11 (Nat.le_trans hs hb1011.size) _ (u8s (encN 4 z)) 4 c11 rfl (by rw [u8s_length, encN_length]) HB11.out.row (u8s_one _) (by omega) (by omega) ?_; intro v12 w12 HO12 hs12 hb12))
      have HO13 : Hid (w12.ownsRow w.heap.size 5 1 v12 (8 + n + (244 - n) + 4) (u8s (sealB (K : Int) (N : Int) l))) := by
        have := HO12.out
        rw [HSE.out, u8s_append]
        exact this
      obtain ⟨A13, c13, rfl, hB13⟩ := Bytes8.of_own HO13.out
      go_ret2
      exact ⟨A13, _, c13, rfl, hB13, hbel.trans ((hb1011.mono hs).trans hb12)⟩

theorem refSeal_any (k no : Int) (A : Option Addr) (n c : Nat) (l : List UInt8) (w : World) (h : Bytes8 w A n c l) :
    Calls Tryz.prog 57 #[.int .i64 k, .int .i64 no, .slice A n c] w fun e w' => ∃ A' m c', e = .returned (.tuple #[.slice A' m c', .int .i64 (sealE k no n)]) ∧ Bytes8 w' A' m c' (sealB k no l) ∧ Below w.heap.size w w' := by
  by_cases e : sealE k no n = 0
  · rw [e]
    exact refSeal_good k no A n c l w h e
  · refine (refSeal_bad k no A n c w _ rfl e).mono ?_
    rintro e' w' ⟨rfl, rfl⟩
    exact ⟨none, 0, 0, rfl, by rw [sealB, if_neg (by rw [h.len]; exact e)]; exact Bytes8.nil _, Below.refl _ _⟩

end Go.Proofs.YtajeelbeochojaaGreatDoor

/-
  Layer 11's reference: At, in, Bits, Index.
-/
namespace Go.Proofs.YtajeelbeochojaaGreatDoor
open Go.RowKit
set_option linter.unusedVariables false
set_option linter.unusedSimpArgs false

set_option maxRecDepth 100000 in
set_option maxHeartbeats 4000000 in
theorem refAt_newer (b : Int) {A : Option Addr} {n c : Nat} {bs : List Int} {code : Int} (hc : code ≠ 0) (w : World) (hI : Ints w A n c bs) (hn : n ≤ 300) :
    Calls Tryz.prog 81 #[.int .i64 b, .agg #[.slice A n c, .int .i64 code]] w fun e w' => ∃ A2 c2, e = .returned (.agg #[.slice A2 (n + 1) c2, .int .i64 code]) ∧ Ints w' A2 (n + 1) c2 (b :: bs) ∧ Below w.heap.size w w' ∧ Newer (w.heap.size + 2) A2 := by
  have hcb : (code == 0) = false := by simpa using hc
  have hle := hI.le
  have HI := Lib.hid hI
  clear hI hc
  go_enter Tryz.func81, Tryz.ntmps81
  have b1 : Below w.heap.size w (w.alloc (.cells #[.slice A n c, .int .i64 code] 37)) := (Below.refl _ _).alloc (Nat.le_refl _) _
  have b2 : Below w.heap.size w ((w.alloc (.cells #[.slice A n c, .int .i64 code] 37)).alloc (.cells #[.slice none 0 0, .int .i64 0] 37)) := b1.alloc b1.size _
  have hs : (w.alloc (.cells #[.slice A n c, .int .i64 code] 37)).heap.size = w.heap.size + 1 := by simp
  have h0 : ((w.alloc (.cells #[.slice A n c, .int .i64 code] 37)).alloc (.cells #[.slice none 0 0, .int .i64 0] 37)).heap[w.heap.size]? = some (.cells #[.slice A n c, .int .i64 code] 37 (0, 0)) := (Below.heap_alloc _ _ _ (by omega)).trans (MapKept.heap_alloc w _).1
  have h1 := (MapKept.heap_alloc (w.alloc (.cells #[.slice A n c, .int .i64 code] 37)) (.cells #[.slice none 0 0, .int .i64 0] 37)).1
  rw [hs] at h1
  have hsz : ((w.alloc (.cells #[.slice A n c, .int .i64 code] 37)).alloc (.cells #[.slice none 0 0, .int .i64 0] 37)).heap.size = w.heap.size + 2 := by simp
  have H0 := Lib.hid h0
  have H1 := Lib.hid h1
  have B2 := Lib.hid b2
  have HSz := Lib.hid hsz
  have OWN := Lib.hid (fun W => own_one ((w.alloc (.cells #[.slice A n c, .int .i64 code] 37)).alloc (.cells #[.slice none 0 0, .int .i64 0] 37)) W b)
  rw [hsz] at OWN
  have hRw : Hid (∀ W, Below w.heap.size w W → Row W A (i64s bs)) := fun W h => (HI.out.below h).row
  have hBA := Lib.hid (((Below.refl (w.heap.size + 2) ((w.alloc (.cells #[.slice A n c, .int .i64 code] 37)).alloc (.cells #[.slice none 0 0, .int .i64 0] 37))).alloc (by omega) (.cells #[.int .i64 b] 3)).drew)
  clear h0 h1 b1 b2 hs hsz
  go_wp2
  go_region_law (first
    | (refine step_append_row _ rfl (.tmp 10) (.tmp 12) 23 rfl (w.heap.size + 2) 3 (.int .i64 0) 8 Tryz.underlying23 info_i64 rfl (.slice (some ⟨w.heap.size + 2, 0, none⟩) 1 1) 1 [.int .i64 b] rfl (OWN.out _ (Below.refl _ _).drew) (by simp) A (i64s bs) n c rfl (by rw [i64s_length]; exact HI.out.len) (hRw.out _ ((B2.out.alloc B2.out.size _).drew)) (i64s_one _) (by omega) (by omega) ?_
       intro v2 w2 hown2 hs2 hb2
       rw [Nat.add_comm 1 n] at hown2
       have hb3 := hBA.out.trans hb2
       have hp0 := (hb3.block w.heap.size (by omega)).trans H0.out
       have hp1 := (hb3.block (w.heap.size + 1) (by omega)).trans H1.out
       have HP1 := Lib.hid hp1
       have HB3 := Lib.hid (B2.out.trans (hb3.mono (by omega)))
       have k1 : w2.cell? ⟨w.heap.size, 1, none⟩ = some (.int .i64 code) := by rw [cell_of_row w2 w.heap.size 1 _ _ _ hp0]; rfl
       have k2 : w2.cell? ⟨w.heap.size + 1, 0, none⟩ = some (.slice none 0 0) := by rw [cell_of_row w2 (w.heap.size + 1) 0 _ _ _ hp1]; rfl
       have k3 : w2.cell? ⟨w.heap.size + 1, 1, none⟩ = some (.int .i64 0) := by rw [cell_of_row w2 (w.heap.size + 1) 1 _ _ _ hp1]; rfl
       have f0 := Lib.frozen_of_heap hp1 0
       have f1 := Lib.frozen_of_heap hp1 1
       clear hb2 hb3 hp0 hp1
       obtain ⟨A2, c2, hv2, h62, h63⟩ := ownsRow_form hown2.out
       rw [hv2]))
  all_goals go_wp2
  all_goals
    refine bodyPost_ret (results_rf Tryz.results81 _ _ (w.heap.size + 1) (.slice A2 (n + 1) c2) (.int .i64 code) rfl (two_sets HP1.out)) rfl ?_
    have ho : w2.ownsRow (w.heap.size + 2) 3 1 (.slice A2 (n + 1) c2) (n + 1) (i64s (b :: bs)) := by
      have := hown2.out
      rw [hv2] at this
      exact this
    obtain ⟨A3, c3, he, hI⟩ := Ints.of_own ho
    injection he with e1 e2 e3
    subst e1 e3
    refine ⟨A2, c2, rfl, hI.kept2 fun ad e => ?_, (HB3.out.setCell (p := ⟨w.heap.size + 1, 0, none⟩) (by simp) _).setCell (p := ⟨w.heap.size + 1, 1, none⟩) (by simp) _, fun ad e => (own_apart ho ad.block (by rw [e]; rfl)).1⟩
    have := (own_apart ho ad.block (by rw [e]; rfl)).1
    omega

theorem two_keep (w : World) (g : Nat) (a b : Value) {B : Nat} (hg : g < B) (k : Nat) (hk : B ≤ k) : ((w.setCell ⟨g, 0, none⟩ a).setCell ⟨g, 1, none⟩ b).heap[k]? = w.heap[k]? := by
  rw [heap_setCell_other _ _ k _ (by show k ≠ g; omega), heap_setCell_other _ _ k _ (by show k ≠ g; omega)]
theorem below_store2 {B g : Nat} {w0 w : World} (hb : Below B w0 w) (hg : B ≤ g) (a b : Value) : Below B w0 ((w.setCell ⟨g, 0, none⟩ a).setCell ⟨g, 1, none⟩ b) :=
  (hb.setCell (p := ⟨g, 0, none⟩) hg _).setCell (p := ⟨g, 1, none⟩) hg _

set_option maxRecDepth 100000 in
set_option maxHeartbeats 800000 in
theorem ref11At_any (no x : Int) (w : World) :
    Calls Tryz.prog 58 #[.int .i64 no, .int .i64 x] w fun e w' => ∃ A n c, e = .returned (.agg #[.slice A n c, .int .i64 x]) ∧ Ints w' A n c (atL no x) ∧ Newer w.heap.size A ∧ Below w.heap.size w w' := by
  have AT : Hid (∀ W, Bx w W → Calls Tryz.prog 81 #[.int .i64 no, .agg #[.slice none 0 0, .int .i64 x]] W fun e w' => ∃ A n c, e = .returned (.agg #[.slice A n c, .int .i64 x]) ∧ Ints w' A n c (atL no x) ∧ Newer (w.heap.size + 1) A ∧ Bx w w') := fun W hW => by
    by_cases hx : x = 0
    · subst hx
      exact (refAt_nil no none 0 0 W).mono fun e w' ⟨h1, h2⟩ => ⟨none, 0, 0, h1, Ints.nil _, Newer.nil _, hW.later h2⟩
    · rw [atL, if_neg hx]
      refine (refAt_newer no hx W (Ints.nil W) (by omega)).mono ?_
      rintro e w' ⟨A, c, h1, h2, h3, h4⟩
      have := hW.low
      exact ⟨A, 1, c, h1, h2, h4.mono (by omega), hW.later h3⟩
  have hN0 := Bx.start w
  generalize atL no x = l at *
  go_enter Tryz.func58, Tryz.ntmps58
  go_wp2_with (go_at_call 81; (with_reducible refine (AT.out _ hN0).mono ?_); rintro e w1 ⟨A1, n1, c1, rfl, hI, hn, hN1⟩; have HI := Lib.hid hI; have HNW := Lib.hid hn; clear hI hn; obtain ⟨⟨z0, z1⟩, y0, y1⟩ := hN1.flt.cs)
  refine bodyPost_ret (results_rf Tryz.results58 _ _ w.heap.size (.slice A1 n1 c1) (.int .i64 x) rfl (hN1.flt.store _ _)) rfl ?_
  exact ⟨A1, n1, c1, rfl, HI.out.newer HNW.out (two_keep w1 w.heap.size _ _ (by omega)), HNW.out.mono (by omega), below_store2 hN1.bel (Nat.le_refl _) _ _⟩

theorem Trs.newer {w w' : World} {A : Option Addr} {n c : Nat} {l : List Slt} {B : Nat} (h : Trs w A n c l) (hA : Newer B A) (hk : ∀ k, B ≤ k → w'.heap[k]? = w.heap[k]?) : Trs w' A n c l :=
  ⟨h.len, h.cap, h.most, fun k hkl => by
    obtain ⟨ad, e, h0, h1, h2⟩ := h.row k hkl
    have hb : ∀ j, w'.cell? (ad.add j) = w.cell? (ad.add j) := fun j => World.cell?_of_block (hk _ (by rw [addr_add_block]; exact hA ad e))
    exact ⟨ad, e, (hb _).trans h0, (hb _).trans h1, (hb _).trans h2⟩⟩

end Go.Proofs.YtajeelbeochojaaGreatDoor

/-
  An image and the reference's image, written side by side.
-/
namespace Go.Proofs.YtajeelbeochojaaGreatDoor
open Go.RowKit
set_option linter.unusedVariables false
set_option linter.unusedSimpArgs false

def wM (q : Nat) (k : Int) (m : Nat) (M : List (List UInt8)) (l : List UInt8) : List (List UInt8) := if wE q k m = 0 then M.set k.toNat l else M

theorem wM_blks {q : Nat} {k : Int} {m : Nat} {L l : List UInt8} (hL : L.length = q * 256) (hl : l.length = m) : wM q k m (blks L q) l = blks (wL q k m L l) q := by
  unfold wL wM
  rcases wE_cases q k m with ⟨_, e⟩ | ⟨j, rfl, hj, hm, e⟩ | ⟨j, rfl, hj, hm, e⟩
  · rw [e, if_neg (by decide), if_neg (by decide)]
  · rw [e, if_neg (by decide), if_neg (by decide)]
  · rw [e, if_pos rfl, if_pos rfl]
    apply List.ext_getElem
    · simp [blks]
    · intro i h1 h2
      have hi : i < q := by simpa [blks] using h2
      simp only [blks, List.getElem_set, List.getElem_map, List.getElem_range, Int.toNat_natCast]
      rw [blk_splice hL (by omega) hj hi]
      by_cases hij : i = j
      · rw [if_pos hij, if_pos hij.symm]
      · rw [if_neg hij, if_neg (fun h => hij h.symm)]

theorem blks_flatten (L : List UInt8) (q : Nat) (hL : L.length = q * 256) : (blks L q).flatten = L := by
  have key : ∀ j, j ≤ q → (blks L j).flatten = L.take (j * 256) := by
    intro j
    induction j with
    | zero => intro _; simp [blks]
    | succ j ih =>
      intro hj
      rw [blks_succ, List.flatten_append, ih (by omega)]
      simp only [List.flatten_cons, List.flatten_nil, List.append_nil, blk]
      rw [Nat.add_mul, Nat.one_mul, List.take_add]
  rw [key q (Nat.le_refl _), List.take_of_length_le (by omega)]

end Go.Proofs.YtajeelbeochojaaGreatDoor

/-
  Layer 11: Write, the program's and the reference's.
-/
namespace Go.Proofs.YtajeelbeochojaaGreatDoor
open Go.RowKit
set_option linter.unusedVariables false
set_option linter.unusedSimpArgs false

/-! what image's Write may do: the error, and what it leaves, which bears what is laid behind -/
/-! ### the reference's -/
set_option maxRecDepth 100000 in
set_option maxHeartbeats 1600000 in
theorem refWrite_put2 {B p : Nat} {v : Value} {L : List (List UInt8)} (k : Nat) (A2 : Option Addr) (c2 : Nat) (l : List UInt8) (w : World) (h : RImg w B p v L) (hk : k < L.length) {g cap : Nat} {cur : Array Value} (hv : v = .slice (some ⟨g, 0, none⟩) L.length cap) (hg : p + 1 ≤ g) (hh : w.heap[g]? = some (.cells cur 9 (0, 0))) (h1 : L.length ≤ cap) (h2 : cap ≤ maxLen) (h3 : cur.size = cap) (h4 : cur.toList.take L.length = txts L) (hl : Bytes8 w A2 256 c2 l) :
    Calls Tryz.prog 59 #[.pointer (some ⟨p, 0, none⟩), .int .i64 (k : Int), .slice A2 256 c2] w fun e w' => e = .returned (.int .i64 0) ∧ RImg w' B p v (L.set k l) ∧ w.grownBy w' (some g) := by
  subst hv
  have hcell := h.cell
  have cv := run_str hl
  have cvd : (convert 22 9 (.slice A2 256 c2)).run Tryz.prog w.drew = .ok (.string ⟨l.toArray⟩) w.drew := run_str (hl.below ((Below.refl _ _).drew))
  have hc1 : w.cell? ⟨g, k, none⟩ = some (.string ⟨L[k].toArray⟩) := by
    rw [cell_of_row w g k cur _ _ hh]
    have := txts_at L k hk
    rw [← h4, List.getElem?_take_of_lt hk] at this
    simpa [txt] using this
  have hfz : w.frozen? ⟨g, k, none⟩ = false := frozen_of_row w g k _ _ hh
  have HX : Hid (RImg (w.setCell ⟨g, k, none⟩ (.string ⟨l.toArray⟩)) B p (.slice (some ⟨g, 0, none⟩) L.length cap) (L.set k l)) := h.set l hg hh h1 h2 h3 h4 hk
  have HBl : Hid (w.grownBy (w.setCell ⟨g, k, none⟩ (.string ⟨l.toArray⟩)).drew (some g)) := by
    have hb : Below g w (w.setCell ⟨g, k, none⟩ (.string ⟨l.toArray⟩)) := (Below.refl _ _).setCell (p := ⟨g, k, none⟩) (Nat.le_refl _) _
    exact ⟨hb.drew.os, hb.drew.tape, hb.drew.output, hb.drew.size, fun j hj hne => heap_setCell_other _ _ j _ (fun e => hne (by rw [e]))⟩
  have hkI : (k : Int) < (L.length : Int) := by omega
  have hc63 : cap ≤ 9223372036854775807 := by simpa [maxLen] using h2
  clear h hh h2 h3 h4 hl
  generalize L[k] = t at *
  generalize L.length = n at *
  go_enter Tryz.func59, Tryz.ntmps59
  go_wp2
  go_region
  all_goals go_wp2
  all_goals go_ret
  all_goals exact ⟨rfl, HX.out.later ((Below.refl _ _).drew), HBl.out⟩

theorem grown_box {w W : World} {r : Option Nat} (h : w.grownBy W r) (c d : Value) : w.grownBy ((W.setCell ⟨w.heap.size, 0, none⟩ c).setCell ⟨w.heap.size, 1, none⟩ d) r := by
  have hb : Below w.heap.size W ((W.setCell ⟨w.heap.size, 0, none⟩ c).setCell ⟨w.heap.size, 1, none⟩ d) := below_store2 (Below.refl _ _) (Nat.le_refl _) c d
  exact ⟨hb.os.trans h.os, hb.tape.trans h.tape, hb.output.trans h.output, Nat.le_trans h.size hb.size, fun k hk hne => (hb.block k hk).trans (h.block k hk hne)⟩
end Go.Proofs.YtajeelbeochojaaGreatDoor

/-
  Layer 16: Next, Lay, slices.Clone, Ahead.
-/
namespace Go.Proofs.YtajeelbeochojaaGreatDoor
open Go.RowKit
set_option linter.unusedVariables false
set_option linter.unusedSimpArgs false

section
variable {w : World} {base p m : Nat} {A : Option Addr} {n c : Nat} {l : List Int} {t : Nat}
theorem Fr2.of_one {w w' : World} {r1 : Option Nat} (h : w.grownBy w' r1) (r2 : Option Nat) : Fr2 w w' r1 r2 := ⟨h.os, h.tape, h.output, h.size, fun k hk h1 _ => h.block k hk h1⟩
theorem Fr2.of_two {a b c : World} {r1 r2 : Option Nat} (h : a.grownBy b r1) (k : b.grownBy c r2) : Fr2 a c r1 r2 := ⟨k.os.trans h.os, k.tape.trans h.tape, k.output.trans h.output, Nat.le_trans h.size k.size, fun i hi h1 h2 => (k.block i (Nat.lt_of_lt_of_le hi h.size) h2).trans (h.block i hi h1)⟩
theorem Fr2.swap {w w' : World} {r1 r2 : Option Nat} (h : Fr2 w w' r1 r2) : Fr2 w w' r2 r1 := ⟨h.os, h.tape, h.output, h.size, fun k hk h1 h2 => h.block k hk h2 h1⟩
theorem Fr2.two {w w' : World} {r1 r2 : Option Nat} {g : Nat} (h : Fr2 w w' r1 r2) (hg : w.heap.size ≤ g) (a b : Value) : Fr2 w ((w'.setCell ⟨g, 0, none⟩ a).setCell ⟨g, 1, none⟩ b) r1 r2 :=
  ⟨h.os, h.tape, h.output, by simpa [World.setCell] using h.size, fun k hk h1 h2 => by
    rw [heap_setCell_other _ _ k _ (by show k ≠ g; omega), heap_setCell_other _ _ k _ (by show k ≠ g; omega)]
    exact h.block k hk h1 h2⟩

end
section
variable {w : World} {base p m B g : Nat} {A : Option Addr} {n c : Nat} {l : List Int} {t : Nat} {L : List UInt8}
/-- a block is left, and the bytes can't be written to it -/
theorem Lay_bad16 {q : Nat} (kind : Int) {Ai : Option Addr} {ni ci : Nat} {li : List UInt8} (h : AImg w base p m B g A n c l t L) (hL : L.length = q * 256) (ht : t < n) (hB : Bytes8 w Ai ni ci li) (hx : wrE11 q (l.getD t 0) kind li ≠ 0) :
    Calls Tryz.prog 17 #[.pointer (some ⟨p, 0, none⟩), .int .i64 kind, .slice Ai ni ci] w fun e w' => ∃ v, e = .returned (.tuple #[.int .i64 0, v]) ∧ ErrAt w' v (l.getD t 0) (wrE11 q (l.getD t 0) kind li) ∧ AImg w' base p m B g A n c l t L ∧ w.grownBy w' (some g) := by
  have NX : Hid (Calls Tryz.prog 35 #[.pointer (some ⟨p, 0, none⟩)] w fun e w' => e = .returned (.tuple #[.int .i64 (l.getD t 0), .nilIface]) ∧ w'.cell? ⟨p, 1, none⟩ = some (.pointer (some ⟨m, 0, none⟩)) ∧ Below w.heap.size w w') := (next_some16 h.alc ht).mono fun e w' ⟨h1, h2⟩ => ⟨h1, (h.alc.later h2).cell1, h2⟩
  have WR : Hid (∀ W, Below w.heap.size w W → Calls Tryz.prog 37 #[.pointer (some ⟨m, 0, none⟩), .int .i64 (l.getD t 0), .int .i64 kind, .slice Ai ni ci] W fun e w' => ∃ p1, e = .returned (.iface 92 (.pointer (some ⟨p1, 0, none⟩))) ∧ Hid (ErrAt w' (.iface 92 (.pointer (some ⟨p1, 0, none⟩))) (l.getD t 0) (wrE11 q (l.getD t 0) kind li)) ∧ Hid (AImg w' base p m B g A n c l t L) ∧ W.grownBy w' (some g)) := fun W hW => by
    refine (blockWrite_any (l.getD t 0) kind (h.later hW).img hL (hB.below hW)).mono ?_
    rintro e w' ⟨v, h1, h2, h3, h4⟩
    rw [wrL11_bad hx] at h3
    obtain ⟨p1, hv, hg⟩ : ∃ p1, v = .iface 92 (.pointer (some ⟨p1, 0, none⟩)) ∧ Good w' [.flt (l.getD t 0) p1, .num (wrE11 q (l.getD t 0) kind li)] := by
      rcases h2 with ⟨h, _⟩ | ⟨_, h⟩
      · exact absurd h hx
      · exact h
    subst hv
    exact ⟨p1, h1, h2, ⟨(h.later hW).alc.grown h4 h.glt, h3, h.mlt, h.glt⟩, h4⟩
  clear h ht hB hx
  generalize wrE11 q (l.getD t 0) kind li = x at *
  generalize l.getD t 0 = no at *
  go_enter Tryz.func17, Tryz.ntmps17
  go_wp2_with (first
    | (go_at_call 35; (with_reducible refine (NX.out).mono ?_); rintro e w1 ⟨rfl, hc1, hb⟩)
    | (go_at_call 37; (with_reducible refine (WR.out _ hb).mono ?_); rintro e w2 ⟨p1, rfl, he, hi, hg⟩))
  go_ret2
  exact ⟨_, rfl, he.out, hi.out, grown_trans (grown_below hb _) hg⟩

end

/-! ### slices.Clone, Ahead -/
end Go.Proofs.YtajeelbeochojaaGreatDoor

/-
  Layer 16: Ahead; what a nobody tells; From.
-/
namespace Go.Proofs.YtajeelbeochojaaGreatDoor
open Go.RowKit
set_option linter.unusedVariables false
set_option linter.unusedSimpArgs false

section
variable {w : World} {base p m : Nat} {A : Option Addr} {n c : Nat} {l : List Int} {t : Nat}
set_option maxRecDepth 100000 in
set_option maxHeartbeats 800000 in
theorem Ahead_yes16 (k : Int) (h : Alc w base p m A n c l t) (hn : n ≤ 1000000) :
    Calls Tryz.prog 22 #[.pointer (some ⟨p, 0, none⟩), .int .i64 k] w fun e w' => ∃ A2 n2 c2, e = .returned (.slice A2 n2 c2) ∧ Ints w' A2 n2 c2 ((l.drop t).take k.toNat) ∧ Below w.heap.size w w' := by
  have LF : Hid (Calls Tryz.prog 19 #[.pointer (some ⟨p, 0, none⟩)] w fun e w' => e = .returned (.int .i64 ((n - t : Nat) : Int)) ∧ Hid (Alc w' base p m A n c l t) ∧ Below w.heap.size w w') := (Left_yes16 h).mono fun e w' ⟨h1, h2⟩ => ⟨h1, h.later h2, h2⟩
  have hll : (l.drop t).length = n - t := by rw [List.length_drop, h.ints.len]
  have RS : Hid (∀ W, Alc W base p m A n c l t → Calls Tryz.prog 40 #[.pointer (some ⟨p, 2, none⟩)] W fun e w' => ∃ A2, e = .returned (.slice A2 (n - t) (c - t)) ∧ Hid (Ints w' A2 (n - t) (c - t) (l.drop t)) ∧ Below W.heap.size W w') := fun W hW => rest16 hW
  have hcap := h.ints.cap
  have hmost := h.ints.most
  obtain ⟨n2, hn2⟩ : ∃ n2, n - t = n2 := ⟨_, rfl⟩
  obtain ⟨c2, hc2⟩ : ∃ c2, c - t = c2 := ⟨_, rfl⟩
  rw [hn2] at LF RS hll
  rw [hc2] at RS
  have hn3 : n2 ≤ 1000000 := by omega
  have hnc : n2 ≤ c2 := by omega
  have hm2 : c2 ≤ 9223372036854775807 := by omega
  have HA := Lib.hid h
  clear h hn2 hc2 hcap hmost hn
  by_cases h1 : k < 1 ∨ n2 = 0
  · have hlist : (l.drop t).take k.toNat = [] := by
      rcases h1 with h1 | h1
      · rw [show k.toNat = 0 by omega, List.take_zero]
      · rw [List.eq_nil_of_length_eq_zero (hll.trans h1), List.take_nil]
    rw [hlist]
    clear hlist hll RS
    by_cases hk : (n2 : Int) < k
    · obtain rfl : n2 = 0 := by omega
      go_enter Tryz.func22, Tryz.ntmps22
      go_wp2_with (go_at_call 19; (with_reducible refine (LF.out).mono ?_); rintro e w1 ⟨rfl, ha, hb⟩)
      go_ret
      exact ⟨none, 0, 0, rfl, Ints.nil _, hb⟩
    · have hk1 : k < 1 := by omega
      go_enter Tryz.func22, Tryz.ntmps22
      go_wp2_with (go_at_call 19; (with_reducible refine (LF.out).mono ?_); rintro e w1 ⟨rfl, ha, hb⟩)
      go_ret
      exact ⟨none, 0, 0, rfl, Ints.nil _, hb⟩
  · obtain ⟨j, rfl⟩ := Int.eq_ofNat_of_zero_le (show 0 ≤ k by omega)
    have CL : Hid (∀ W A2 j', j' ≤ n2 → Ints W A2 j' c2 ((l.drop t).take j') → Calls Tryz.prog 33 #[.slice A2 j' c2] W fun e w' => ∃ A3 c3, e = .returned (.slice A3 j' c3) ∧ Hid (Ints w' A3 j' c3 ((l.drop t).take j')) ∧ Below W.heap.size W w') := fun W A2 j' hj hI => (Clone16 hI (by omega)).mono fun e w' ⟨A3, c3, h1, h2, _, _, h3⟩ => ⟨A3, c3, h1, h2, h3⟩
    have CT : Hid (∀ W A2 j', j' ≤ n2 → Ints W A2 n2 c2 (l.drop t) → (∀ V, (Instr.slice 23 (.slice A2 n2 c2) none (some (.int .i64 (j' : Int))) none).run Tryz.prog V = .ok (.slice A2 j' c2) V) ∧ Ints W A2 j' c2 ((l.drop t).take j')) := fun W A2 j' hj hI => cut_to16 hI hj
    rw [Int.toNat_natCast]
    obtain ⟨z, hz⟩ : ∃ z : Nat, min (j : Int) (n2 : Int) = (z : Int) := ⟨min j n2, by omega⟩
    have hz1 : ¬ (z : Int) < 1 := by omega
    have hz2 : z ≤ n2 := by omega
    have hlist : (l.drop t).take j = (l.drop t).take z := by
      by_cases hk : n2 < j
      · rw [List.take_of_length_le (by omega), List.take_of_length_le (by omega)]
      · rw [show j = z by omega]
    rw [hlist]
    clear hlist hll h1
    go_enter Tryz.func22, Tryz.ntmps22
    go_wp2_with (first
      | (go_at_call 19; (with_reducible refine (LF.out).mono ?_); rintro e w1 ⟨rfl, ha, hb⟩)
      | (go_at_call 40; (with_reducible refine (RS.out _ ha.out).mono ?_); rintro e w2 ⟨A2, rfl, hI2, hb2⟩; obtain ⟨hsl, hI3⟩ := CT.out _ _ z hz2 hI2.out; have HI3 := Lib.hid hI3; clear hI3)
      | (go_at_call 33; (with_reducible refine (CL.out _ _ _ hz2 HI3.out).mono ?_); rintro e w3 ⟨A3, c3, rfl, hI4, hb3⟩))
    go_ret
    exact ⟨A3, z, c3, rfl, hI4.out, hb.trans ((hb2.mono hb.size).trans (hb3.mono (Nat.le_trans hb.size hb2.size)))⟩
end

/-! ### nobody -/
section
variable {v : Value} (w : World) (h : No16 w v)
include h
end

/-! ### From -/
theorem outR16_no {q : Nat} {x : Int} (h : outR16 q x = false) : 1 ≤ x ∧ x < (q : Int) := by
  simp [outR16] at h
  omega
end Go.Proofs.YtajeelbeochojaaGreatDoor

/-
  Layer 16: From, New.
-/
namespace Go.Proofs.YtajeelbeochojaaGreatDoor
open Go.RowKit
set_option linter.unusedVariables false
set_option linter.unusedSimpArgs false

section
variable {w : World} {B m g q : Nat} {L : List UInt8} {A : Option Addr} {n c : Nat} {l : List Int}
set_option maxRecDepth 100000 in
theorem From_bad16 (hI : Img w B m g L) (hL : L.length = q * 256) (h : Ints w A n c l) (ho : l.any (outR16 q) = true) :
    Calls Tryz.prog 11 #[.pointer (some ⟨m, 0, none⟩), .slice A n c] w fun e w' => e = .returned (.tuple #[.pointer none, .iface 60 (.int .i64 1)]) ∧ Below w.heap.size w w' := by
  have CF := Lib.hid (box16 hI hL h _ (Below.refl _ _))
  rw [ho] at CF
  have hb : Below w.heap.size w (w.alloc (.cells #[.pointer (some ⟨m, 0, none⟩)] 26)) := (Below.refl _ _).alloc (Nat.le_refl _) _
  have hc : (w.alloc (.cells #[.pointer (some ⟨m, 0, none⟩)] 26)).cell? ⟨w.heap.size, 0, none⟩ = some (.pointer (some ⟨m, 0, none⟩)) := cell_of_row _ _ 0 _ _ _ (heap_alloc_new w _)
  clear hI hL h ho
  go_enter Tryz.func11, Tryz.ntmps11
  go_wp2_with (go_at_call 31; (with_reducible refine (CF.out).mono ?_); rintro e w1 ⟨rfl, rfl⟩)
  go_ret2
  exact ⟨rfl, hb⟩

set_option maxRecDepth 100000 in
set_option maxHeartbeats 1600000 in
theorem From_order16 (hI : Img w B m g L) (hL : L.length = q * 256) (h : Ints w A n c l) (ho : l.any (outR16 q) = false) (hr : ¬ Rises16 l) :
    Calls Tryz.prog 11 #[.pointer (some ⟨m, 0, none⟩), .slice A n c] w fun e w' => e = .returned (.tuple #[.pointer none, .iface 60 (.int .i64 8)]) ∧ Below w.heap.size w w' := by
  have CF := Lib.hid (box16 hI hL h _ (Below.refl _ _))
  rw [ho] at CF
  have hb : Below w.heap.size w (w.alloc (.cells #[.pointer (some ⟨m, 0, none⟩)] 26)) := (Below.refl _ _).alloc (Nat.le_refl _) _
  have hc : (w.alloc (.cells #[.pointer (some ⟨m, 0, none⟩)] 26)).cell? ⟨w.heap.size, 0, none⟩ = some (.pointer (some ⟨m, 0, none⟩)) := cell_of_row _ _ 0 _ _ _ (heap_alloc_new w _)
  obtain ⟨w0, hw0⟩ : ∃ w0, w.alloc (.cells #[.pointer (some ⟨m, 0, none⟩)] 26) = w0 := ⟨_, rfl⟩
  rw [hw0] at hb hc CF
  have HI := Lib.hid (h.below hb)
  have hle := h.le
  have HL := Lib.hid h.len
  have HR := Lib.hid hr
  have HB := Lib.hid hb
  clear hI hL h ho hr hb
  go_enter Tryz.func11, Tryz.ntmps11
  go_wp2_with (go_at_call 31; (with_reducible refine (CF.out).mono ?_); rintro e w1 ⟨rfl, rfl⟩)
  go_loopw [6] (fun i wr => ∃ j : Nat, (j + 1 ≤ n ∨ j = 0) ∧ i = .int .i64 ((j : Int) + 1) ∧ Hid (Below w0.heap.size w0 wr) ∧ Hid (∀ i, i + 1 < j + 1 → l.getD i 0 < l.getD (i + 1) 0)) (fun i _ => n - (intOf i).toNat)
  case atStart => exact ⟨0, .inr rfl, by go_num, Below.refl _ _, fun i hi => by omega⟩
  case round =>
    obtain ⟨j, hj, rfl, hbr, hrs⟩ := hrel
    by_cases hlt : j + 1 < n
    · have hkl : j + 1 < l.length := by have := HL.out; omega
      obtain ⟨b, off, rfl, hbl, hcc⟩ := HI.out.row.lit (by rw [i64s_length]; omega)
      have hc0 : wr.cell? ⟨b, off + j, none⟩ = some (.int .i64 (l.getD j 0)) := by
        rw [hbr.out.cell (p := ⟨b, off + j, none⟩) hbl, hcc j _ (i64s_at l j (by omega))]
        simp [List.getD_eq_getElem?_getD, List.getElem?_eq_getElem (show j < l.length by omega)]
      have hc1 : wr.cell? ⟨b, off + (j + 1), none⟩ = some (.int .i64 (l.getD (j + 1) 0)) := by
        rw [hbr.out.cell (p := ⟨b, off + (j + 1), none⟩) hbl, hcc (j + 1) _ (i64s_at l (j + 1) hkl)]
        simp [List.getD_eq_getElem?_getD, List.getElem?_eq_getElem hkl]
      clear hcc
      by_cases hx : l.getD (j + 1) 0 ≤ l.getD j 0
      · generalize l.getD (j + 1) 0 = x1 at *
        generalize l.getD j 0 = x0 at *
        have hd : decide (x1 ≤ x0) = true := decide_eq_true hx
        go_wp2
        go_quiet (fail)
        go_wp2
        go_ret2
        exact ⟨rfl, HB.out.trans (below_drewN (hbr.out.mono HB.out.size) _)⟩
      · have HX : Hid (∀ i, i + 1 < j + 1 + 1 → l.getD i 0 < l.getD (i + 1) 0) := fun i hi => by
          by_cases he : i = j
          · subst he; omega
          · exact hrs.out i (by omega)
        generalize l.getD (j + 1) 0 = x1 at hc1 hx
        generalize l.getD j 0 = x0 at hc0 hx
        have hd : decide (x1 ≤ x0) = false := decide_eq_false hx
        go_wp2
        go_quiet (fail)
        go_wp2
        go_roundw
        case rel => exact ⟨j + 1, by omega, by go_num, below_drewN hbr.out _, HX⟩
        case measure => simp only [intOf]; omega
    · exact absurd (fun i hi => hrs.out i (by have := HL.out; omega)) HR.out
end
end Go.Proofs.YtajeelbeochojaaGreatDoor

/-
  Layer 16: New.
-/
namespace Go.Proofs.YtajeelbeochojaaGreatDoor
open Go.RowKit
set_option linter.unusedVariables false
set_option linter.unusedSimpArgs false

section
variable {w : World} {B m g q : Nat} {L : List UInt8}
theorem New_bad16 (f : Int) (hI : Img w B m g L) (hL : L.length = q * 256) (hf : f < 1 ∨ (q : Int) < f) : Calls Tryz.prog 9 #[.pointer (some ⟨m, 0, none⟩), .int .i64 f] w fun e w' => e = .returned (.tuple #[.pointer none, .iface 60 (.int .i64 1)]) ∧ w = w' := by
  have BK := Lib.hid (Blocks_img w hI hL)
  clear hI hL
  by_cases h1 : f < 1
  · go_enter Tryz.func9, Tryz.ntmps9
    go_wp2
    go_ret2
    exact ⟨rfl, rfl⟩
  · have h2 : (q : Int) < f := by omega
    go_enter Tryz.func9, Tryz.ntmps9
    go_wp2_with (go_at_call 30; (with_reducible refine (BK.out).mono ?_); rintro e w1 ⟨rfl, rfl⟩)
    go_ret2
    exact ⟨rfl, rfl⟩

end
end Go.Proofs.YtajeelbeochojaaGreatDoor

/-
  Layer 16: the reference's allocator; its From.
-/
namespace Go.Proofs.YtajeelbeochojaaGreatDoor
open Go.RowKit
set_option linter.unusedVariables false
set_option linter.unusedSimpArgs false

section
variable {w w' : World} {base p m : Nat} {fr : List Int} {u : Nat}
theorem RAlc.new_two {g : Nat} (h : RAlc w base p m fr u) (hg : p < g) (a b : Value) : RAlc ((w.setCell ⟨g, 0, none⟩ a).setCell ⟨g, 1, none⟩ b) base p m fr u := by
  have hk : ∀ k, k ≠ g → ((w.setCell ⟨g, 0, none⟩ a).setCell ⟨g, 1, none⟩ b).heap[k]? = w.heap[k]? := fun k hk => by
    rw [heap_setCell_other _ _ k _ hk, heap_setCell_other _ _ k _ hk]
  obtain ⟨h0, A, c, h1, h2, h3⟩ := h
  refine ⟨h0, A, c, (hk p (Nat.ne_of_lt hg)).trans h1, ⟨h2.len, h2.cap, h2.most, fun k v e => ?_⟩, h3⟩
  obtain ⟨ad, ea, hc⟩ := h2.row k v e
  refine ⟨ad, ea, ?_⟩
  have hbk : (ad.add k).block = ad.block := addr_add_block ad k
  have := (h3 ad ea).2
  exact (World.cell?_of_block (w := w) (by rw [hbk]; exact hk _ (by omega))).trans hc
theorem RAlc.two {g : Nat} (h : RAlc w base p m fr u) (hg : g < base) (a b : Value) : RAlc ((w.setCell ⟨g, 0, none⟩ a).setCell ⟨g, 1, none⟩ b) base p m fr u :=
  h.grown (g := some g) ⟨rfl, rfl, rfl, by simp [World.setCell], fun k _ hne => by rw [heap_setCell_other _ _ k _ (fun e => hne (by rw [e])), heap_setCell_other _ _ k _ (fun e => hne (by rw [e]))]⟩ (fun k e => by injection e; omega)
end

section
variable {w : World} {B m q : Nat} {v : Value} {M : List (List UInt8)} {A : Option Addr} {n c : Nat} {l : List Int}

set_option maxRecDepth 100000 in
set_option maxHeartbeats 1600000 in
theorem refFrom_bad16 (hI : RImg w B m v M) (hM : M.length = q) (hq : q ≤ 14400) (h : Ints w A n c l) (ho : l.any (outR16 q) = true) :
    Calls Tryz.prog 12 #[.pointer (some ⟨m, 0, none⟩), .slice A n c] w fun e w' => e = .returned (.tuple #[.pointer none, rf none 0 0 1]) ∧ Below w.heap.size w w' := by
  have hX := Rx16.start w
  obtain ⟨w0, hw0⟩ : ∃ w0, w.alloc (.cells #[.slice none 0 0, .int .i64 0] 37) = w0 := ⟨_, rfl⟩
  rw [hw0] at hX
  have HI := Lib.hid (h.below hX.bel)
  have hle := h.le
  have HL := Lib.hid h.len
  have HM := Lib.hid (hI.later hX.bel)
  have HQ := Lib.hid hM
  have HO := Lib.hid ho
  clear hI h ho hM
  simp only [rf]
  go_enter Tryz.func12, Tryz.ntmps12
  go_wp2
  go_loopw [6] (fun i wr => ∃ j : Nat, j ≤ n ∧ i = .int .i64 j ∧ Hid (Rx16 w wr) ∧ Hid (Below w0.heap.size w0 wr) ∧ Hid ((l.take j).any (outR16 q) = false)) (fun i _ => n - (intOf i).toNat)
  case atStart => exact ⟨0, by omega, rfl, hX, Below.refl _ _, by simp [Hid]⟩
  case round =>
    obtain ⟨j, hj, rfl, hxr, hbr, hno⟩ := hrel
    by_cases hlt : j < n
    · have hkl : j < l.length := by have := HL.out; omega
      obtain ⟨b, off, rfl, hbl, hcc⟩ := HI.out.row.lit (by rw [i64s_length]; omega)
      have hc0 : wr.cell? ⟨b, off + j, none⟩ = some (.int .i64 l[j]) := (hbr.out.cell (p := ⟨b, off + j, none⟩) hbl).trans (hcc j _ (i64s_at l j hkl))
      obtain ⟨Am, cm, hv, hc1, hc2, hcm, _⟩ := (HM.out.later hbr.out).form
      rw [HQ.out] at hcm hc1
      have HT := Lib.hid (List.take_succ_eq_append_getElem hkl)
      clear hcc
      generalize l[j] = x at *
      obtain ⟨⟨y0, y1⟩, y2, y3⟩ := hxr.out.flt.cs
      by_cases hx1 : x < 1
      · have hd : decide (x < 1) = true := decide_eq_true hx1
        go_wp2
        go_quiet (fail)
        go_wp2
        refine bodyPost_ret (blk_resT Tryz.results12 _ _ rfl ((hxr.out.drewN nq).flt.store _ _).load) rfl ?_
        exact ⟨rfl, below_store2 (hxr.out.drewN nq).bel (Nat.le_refl _) _ _⟩
      · by_cases hx2 : (q : Int) ≤ x
        · have hd : decide (x < 1) = false := decide_eq_false hx1
          have hd2 : decide ((q : Int) ≤ x) = true := decide_eq_true hx2
          go_wp2
          go_quiet (fail)
          go_wp2
          refine bodyPost_ret (blk_resT Tryz.results12 _ _ rfl ((hxr.out.drewN nq).flt.store _ _).load) rfl ?_
          exact ⟨rfl, below_store2 (hxr.out.drewN nq).bel (Nat.le_refl _) _ _⟩
        · have hd : decide (x < 1) = false := decide_eq_false hx1
          have hd2 : decide ((q : Int) ≤ x) = false := decide_eq_false hx2
          have HX : Hid (outR16 q x = false) := by simp [Hid, outR16, hd, hd2]
          clear hx1 hx2
          go_wp2
          go_quiet (fail)
          go_wp2
          go_roundw
          case rel =>
            refine ⟨j + 1, by omega, by go_num, hxr.out.drewN _, below_drewN hbr.out _, ?_⟩
            show _ = _
            rw [HT.out, List.any_append, hno.out]
            simp [HX.out]
          case measure => simp only [intOf]; omega
    · exfalso
      have := hno.out
      rw [List.take_of_length_le (by have := HL.out; omega), HO.out] at this
      cases this
set_option maxRecDepth 100000 in
set_option maxHeartbeats 1600000 in
theorem refFrom_order16 (hI : RImg w B m v M) (hM : M.length = q) (hq : q ≤ 14400) (h : Ints w A n c l) (ho : l.any (outR16 q) = false) (hr : ¬ Rises16 l) :
    Calls Tryz.prog 12 #[.pointer (some ⟨m, 0, none⟩), .slice A n c] w fun e w' => e = .returned (.tuple #[.pointer none, rf none 0 0 8]) ∧ Below w.heap.size w w' := by
  have hX := Rx16.start w
  obtain ⟨w0, hw0⟩ : ∃ w0, w.alloc (.cells #[.slice none 0 0, .int .i64 0] 37) = w0 := ⟨_, rfl⟩
  rw [hw0] at hX
  have HI := Lib.hid (h.below hX.bel)
  have hle := h.le
  have HL := Lib.hid h.len
  have HM := Lib.hid (hI.later hX.bel)
  have HQ := Lib.hid hM
  have HO := Lib.hid ho
  have HR := Lib.hid hr
  have HX0 := Lib.hid hX
  clear hI h ho hM hr
  simp only [rf]
  go_enter Tryz.func12, Tryz.ntmps12
  go_wp2
  go_loopw [6] (fun i wr => ∃ j : Nat, j ≤ n ∧ i = .int .i64 j ∧ Hid (Below w0.heap.size w0 wr)) (fun i _ => n - (intOf i).toNat)
  case atStart => exact ⟨0, by omega, rfl, Below.refl _ _⟩
  case round =>
    obtain ⟨j, hj, rfl, hbr⟩ := hrel
    by_cases hlt : j < n
    · have hkl : j < l.length := by have := HL.out; omega
      obtain ⟨b, off, rfl, hbl, hcc⟩ := HI.out.row.lit (by rw [i64s_length]; omega)
      have hc0 : wr.cell? ⟨b, off + j, none⟩ = some (.int .i64 l[j]) := (hbr.out.cell (p := ⟨b, off + j, none⟩) hbl).trans (hcc j _ (i64s_at l j hkl))
      obtain ⟨Am, cm, hv, hc1, hc2, hcm, _⟩ := (HM.out.later hbr.out).form
      rw [HQ.out] at hcm hc1
      have hx : outR16 q l[j] = false := by
        have := List.any_eq_false.1 HO.out l[j] (List.getElem_mem hkl)
        simpa using this
      clear hcc
      generalize l[j] = x at *
      obtain ⟨hx1, hx2⟩ := outR16_no hx
      have hd : decide (x < 1) = false := decide_eq_false (by omega)
      have hd2 : decide ((q : Int) ≤ x) = false := decide_eq_false (by omega)
      clear hx hx1 hx2
      go_wp2
      go_quiet (fail)
      go_wp2
      go_roundw
      case rel => exact ⟨j + 1, by omega, by go_num, below_drewN hbr.out _⟩
      case measure => simp only [intOf]; omega
    · obtain rfl : j = n := by omega
      clear hlt hj
      go_wp2
      go_loopw [7] (fun i wr => ∃ k : Nat, (k + 1 ≤ j ∨ k = 0) ∧ i = .int .i64 ((k : Int) + 1) ∧ Hid (Below w0.heap.size w0 wr) ∧ Hid (∀ i, i + 1 < k + 1 → l.getD i 0 < l.getD (i + 1) 0)) (fun i _ => j - (intOf i).toNat)
      case atStart => exact ⟨0, .inr rfl, by go_num, hbr, fun i hi => by omega⟩
      case round =>
        clear hbr
        obtain ⟨k, hk, rfl, hbr, hrs⟩ := hrel
        have hxr := HX0.out.later hbr.out
        have HXR := Lib.hid hxr
        obtain ⟨⟨y0, y1⟩, y2, y3⟩ := hxr.flt.cs
        clear hxr
        by_cases hlt : k + 1 < j
        · have hkl : k + 1 < l.length := by have := HL.out; omega
          obtain ⟨b, off, rfl, hbl, hcc⟩ := HI.out.row.lit (by rw [i64s_length]; omega)
          have hc0 : wr.cell? ⟨b, off + k, none⟩ = some (.int .i64 (l.getD k 0)) := by
            rw [hbr.out.cell (p := ⟨b, off + k, none⟩) hbl, hcc k _ (i64s_at l k (by omega))]
            simp [List.getD_eq_getElem?_getD, List.getElem?_eq_getElem (show k < l.length by omega)]
          have hc1 : wr.cell? ⟨b, off + (k + 1), none⟩ = some (.int .i64 (l.getD (k + 1) 0)) := by
            rw [hbr.out.cell (p := ⟨b, off + (k + 1), none⟩) hbl, hcc (k + 1) _ (i64s_at l (k + 1) hkl)]
            simp [List.getD_eq_getElem?_getD, List.getElem?_eq_getElem hkl]
          clear hcc
          by_cases hx : l.getD (k + 1) 0 ≤ l.getD k 0
          · generalize l.getD (k + 1) 0 = x1 at *
            generalize l.getD k 0 = x0 at *
            have hd : decide (x1 ≤ x0) = true := decide_eq_true hx
            go_wp2
            go_quiet (fail)
            go_wp2
            refine bodyPost_ret (blk_resT Tryz.results12 _ _ rfl ((HXR.out.drewN nq).flt.store _ _).load) rfl ?_
            exact ⟨rfl, below_store2 (HXR.out.drewN nq).bel (Nat.le_refl _) _ _⟩
          · have HX : Hid (∀ i, i + 1 < k + 1 + 1 → l.getD i 0 < l.getD (i + 1) 0) := fun i hi => by
              by_cases he : i = k
              · subst he; omega
              · exact hrs.out i (by omega)
            generalize l.getD (k + 1) 0 = x1 at hc1 hx
            generalize l.getD k 0 = x0 at hc0 hx
            have hd : decide (x1 ≤ x0) = false := decide_eq_false (by omega)
            go_wp2
            go_quiet (fail)
            go_wp2
            go_roundw
            case rel => exact ⟨k + 1, by omega, by go_num, below_drewN hbr.out _, HX⟩
            case measure => simp only [intOf]; omega
        · exact absurd (fun i hi => hrs.out i (by have := HL.out; omega)) HR.out

set_option maxRecDepth 100000 in
set_option maxHeartbeats 1600000 in
theorem refFrom_good16 (hI : RImg w B m v M) (hM : M.length = q) (hq : q ≤ 14400) (h : Ints w A n c l) (ho : l.any (outR16 q) = false) (hr : Rises16 l) (hn : n ≤ 1000000) :
    Calls Tryz.prog 12 #[.pointer (some ⟨m, 0, none⟩), .slice A n c] w fun e w' => ∃ p, e = .returned (.tuple #[.pointer (some ⟨p, 0, none⟩), rf none 0 0 0]) ∧ RAlc w' w.heap.size p m l 0 ∧ Below w.heap.size w w' := by
  have hX := Rx16.start w
  obtain ⟨w0, hw0⟩ : ∃ w0, w.alloc (.cells #[.slice none 0 0, .int .i64 0] 37) = w0 := ⟨_, rfl⟩
  rw [hw0] at hX
  have HI := Lib.hid (h.below hX.bel)
  have hle := h.le
  have HL := Lib.hid h.len
  have HM := Lib.hid (hI.later hX.bel)
  have HQ := Lib.hid hM
  have HO := Lib.hid ho
  have HR := Lib.hid hr
  have HX0 := Lib.hid hX
  clear hI h ho hM hr
  simp only [rf]
  go_enter Tryz.func12, Tryz.ntmps12
  go_wp2
  go_loopw [6] (fun i wr => ∃ j : Nat, j ≤ n ∧ i = .int .i64 j ∧ Hid (Below w0.heap.size w0 wr)) (fun i _ => n - (intOf i).toNat)
  case atStart => exact ⟨0, by omega, rfl, Below.refl _ _⟩
  case round =>
    obtain ⟨j, hj, rfl, hbr⟩ := hrel
    by_cases hlt : j < n
    · have hkl : j < l.length := by have := HL.out; omega
      obtain ⟨b, off, rfl, hbl, hcc⟩ := HI.out.row.lit (by rw [i64s_length]; omega)
      have hc0 : wr.cell? ⟨b, off + j, none⟩ = some (.int .i64 l[j]) := (hbr.out.cell (p := ⟨b, off + j, none⟩) hbl).trans (hcc j _ (i64s_at l j hkl))
      obtain ⟨Am, cm, hv, hc1, hc2, hcm, _⟩ := (HM.out.later hbr.out).form
      rw [HQ.out] at hcm hc1
      have hx : outR16 q l[j] = false := by
        have := List.any_eq_false.1 HO.out l[j] (List.getElem_mem hkl)
        simpa using this
      clear hcc
      generalize l[j] = x at *
      obtain ⟨hx1, hx2⟩ := outR16_no hx
      have hd : decide (x < 1) = false := decide_eq_false (by omega)
      have hd2 : decide ((q : Int) ≤ x) = false := decide_eq_false (by omega)
      clear hx hx1 hx2
      go_wp2
      go_quiet (fail)
      go_wp2
      go_roundw
      case rel => exact ⟨j + 1, by omega, by go_num, below_drewN hbr.out _⟩
      case measure => simp only [intOf]; omega
    · obtain rfl : j = n := by omega
      clear hlt hj
      go_wp2
      go_loopw [7] (fun i wr => ∃ k : Nat, (k + 1 ≤ j ∨ k = 0) ∧ i = .int .i64 ((k : Int) + 1) ∧ Hid (Below w0.heap.size w0 wr) ∧ Hid (∀ i, i + 1 < k + 1 → l.getD i 0 < l.getD (i + 1) 0)) (fun i _ => j - (intOf i).toNat)
      case atStart => exact ⟨0, .inr rfl, by go_num, hbr, fun i hi => by omega⟩
      case round =>
        clear hbr
        obtain ⟨k, hk, rfl, hbr, hrs⟩ := hrel
        have hxr := HX0.out.later hbr.out
        have HXR := Lib.hid hxr
        obtain ⟨⟨y0, y1⟩, y2, y3⟩ := hxr.flt.cs
        clear hxr
        by_cases hlt : k + 1 < j
        · have hkl : k + 1 < l.length := by have := HL.out; omega
          obtain ⟨b, off, rfl, hbl, hcc⟩ := HI.out.row.lit (by rw [i64s_length]; omega)
          have hc0 : wr.cell? ⟨b, off + k, none⟩ = some (.int .i64 (l.getD k 0)) := by
            rw [hbr.out.cell (p := ⟨b, off + k, none⟩) hbl, hcc k _ (i64s_at l k (by omega))]
            simp [List.getD_eq_getElem?_getD, List.getElem?_eq_getElem (show k < l.length by omega)]
          have hc1 : wr.cell? ⟨b, off + (k + 1), none⟩ = some (.int .i64 (l.getD (k + 1) 0)) := by
            rw [hbr.out.cell (p := ⟨b, off + (k + 1), none⟩) hbl, hcc (k + 1) _ (i64s_at l (k + 1) hkl)]
            simp [List.getD_eq_getElem?_getD, List.getElem?_eq_getElem hkl]
          clear hcc
          have hx := HR.out k hkl
          have HX : Hid (∀ i, i + 1 < k + 1 + 1 → l.getD i 0 < l.getD (i + 1) 0) := fun i hi => by
            by_cases he : i = k
            · subst he; omega
            · exact hrs.out i (by omega)
          generalize l.getD (k + 1) 0 = x1 at hc1 hx
          generalize l.getD k 0 = x0 at hc0 hx
          have hd : decide (x1 ≤ x0) = false := decide_eq_false (by omega)
          go_wp2
          go_quiet (fail)
          go_wp2
          go_roundw
          case rel => exact ⟨k + 1, by omega, by go_num, below_drewN hbr.out _, HX⟩
          case measure => simp only [intOf]; omega
        · have hIr := HI.out.below hbr.out
          have HIR := Lib.hid hIr
          have hb1 := (Below.refl wr.heap.size wr).alloc (Nat.le_refl _) (.cells #[] 3)
          have kb : ∀ (V : World) (A : Option Addr) (n c : Nat), (Instr.build 54 #[(0, .pointer (some ⟨m, 0, none⟩)), (1, .slice A n c)]).run Tryz.prog V = .ok (.agg #[.pointer (some ⟨m, 0, none⟩), .slice A n c, .int .i64 0]) V := fun V A n c => run_build V _ _ _ (by kernel_rfl)
          clear hIr
          go_wp2_with (at_builtin; refine wpList_append_row _ rfl _ _ 23 rfl wr.heap.size 3 (.int .i64 0) 8 Tryz.underlying23 info_i64 rfl _ 0 [] rfl (own_empty wr 3) (by simp) A (i64s l) j c rfl (by rw [i64s_length]; exact HL.out) (HIR.out.row.below hb1) (i64s_one _) (by omega) (by omega) ?_; intro v2 w2 hown2 hs2 hb2; have hx := hown2.out; rw [Nat.zero_add, List.nil_append] at hx; have hbw := hb1.trans hb2; obtain ⟨A2, c2, rfl, hI2⟩ := Ints.of_own hx; have ha2 := RAlc.new (m := m) (HL := HL.out) hI2 (Newer.of_own hx) (lt_of_own16 hx) hbw.size; have hbb := hbw.alloc hbw.size (.cells #[.pointer (some ⟨m, 0, none⟩), .slice A2 j c2, .int .i64 0] 54); obtain ⟨U, hU⟩ : ∃ U, w2.alloc (.cells #[.pointer (some ⟨m, 0, none⟩), .slice A2 j c2, .int .i64 0] 54) = U := ⟨_, rfl⟩; rw [hU] at ha2 hbb; have hxw := HXR.out.later hbb; have HXW := Lib.hid hxw; have HA2 := Lib.hid ha2; obtain ⟨⟨z0, z1⟩, z2, z3⟩ := hxw.flt.cs; have HWS := Lib.hid hbw.size; have HXS := Lib.hid (block_lt HXR.out.flt); clear hx hbw hxw hI2 hown2 hbb ha2)
          refine bodyPost_ret (blk_resT Tryz.results12 _ _ rfl (HXW.out.flt.store _ _).load) rfl ?_
          exact ⟨_, rfl, (HA2.out.two HXS.out _ _).mono (Nat.le_of_lt HXS.out), below_store2 HXW.out.bel (Nat.le_refl _) _ _⟩
end
end Go.Proofs.YtajeelbeochojaaGreatDoor

/-
  Layer 16: the reference's New, Take, Ahead.
-/
namespace Go.Proofs.YtajeelbeochojaaGreatDoor
open Go.RowKit
set_option linter.unusedVariables false
set_option linter.unusedSimpArgs false

section
variable {w : World} {B m q : Nat} {v : Value} {M : List (List UInt8)}
set_option maxRecDepth 100000 in
set_option maxHeartbeats 1600000 in
theorem refNew_bad16 (f : Int) (hI : RImg w B m v M) (hM : M.length = q) (hq : q ≤ 14400) (hf : f < 1 ∨ (q : Int) < f) :
    Calls Tryz.prog 10 #[.pointer (some ⟨m, 0, none⟩), .int .i64 f] w fun e w' => e = .returned (.tuple #[.pointer none, rf none 0 0 1]) ∧ Below w.heap.size w w' := by
  have hX := Rx16.start w
  obtain ⟨w0, hw0⟩ : ∃ w0, w.alloc (.cells #[.slice none 0 0, .int .i64 0] 37) = w0 := ⟨_, rfl⟩
  rw [hw0] at hX
  obtain ⟨Am, cm, hv, hc1, hc2, hcm, _⟩ := (hI.later hX.bel).form
  rw [hM] at hcm hc1
  obtain ⟨⟨y0, y1⟩, y2, y3⟩ := hX.flt.cs
  have HX := Lib.hid hX
  clear hI hM hX
  simp only [rf]
  by_cases h1 : f < 1
  · go_enter Tryz.func10, Tryz.ntmps10
    go_wp2
    refine bodyPost_ret (blk_resT Tryz.results10 _ _ rfl (HX.out.flt.store _ _).load) rfl ?_
    exact ⟨rfl, below_store2 HX.out.bel (Nat.le_refl _) _ _⟩
  · have h2 : (q : Int) < f := by omega
    go_enter Tryz.func10, Tryz.ntmps10
    go_wp2
    refine bodyPost_ret (blk_resT Tryz.results10 _ _ rfl (HX.out.flt.store _ _).load) rfl ?_
    exact ⟨rfl, below_store2 HX.out.bel (Nat.le_refl _) _ _⟩

set_option maxRecDepth 100000 in
set_option maxHeartbeats 1600000 in
theorem refNew_good16 (f : Nat) (hI : RImg w B m v M) (hM : M.length = q) (hq : q ≤ 14400) (h1 : 1 ≤ f) (h2 : f ≤ q) :
    Calls Tryz.prog 10 #[.pointer (some ⟨m, 0, none⟩), .int .i64 (f : Int)] w fun e w' => ∃ p, e = .returned (.tuple #[.pointer (some ⟨p, 0, none⟩), rf none 0 0 0]) ∧ RAlc w' w.heap.size p m (seq16 f q) 0 ∧ Below w.heap.size w w' := by
  have hX := Rx16.start w
  obtain ⟨w0, hw0⟩ : ∃ w0, w.alloc (.cells #[.slice none 0 0, .int .i64 0] 37) = w0 := ⟨_, rfl⟩
  rw [hw0] at hX
  have HM : Hid (∀ W, Rx16 w W → ∃ Am cm, q ≤ cm ∧ cm ≤ 9223372036854775807 ∧ W.cell? ⟨m, 0, none⟩ = some (.slice Am q cm)) := fun W hW => by
    obtain ⟨Am, cm, hv, hc1, hc2, hcm, _⟩ := (hI.later hW.bel).form
    rw [hM] at hcm hc1
    exact ⟨Am, cm, hc1, hc2, hcm⟩
  have FG : Hid (∀ W A c, Rx16 w W → Ints W A (q - f) c (seq16 f q) → Calls Tryz.prog 12 #[.pointer (some ⟨m, 0, none⟩), .slice A (q - f) c] W fun e w' => ∃ p, e = .returned (.tuple #[.pointer (some ⟨p, 0, none⟩), .agg #[.slice none 0 0, .int .i64 0]]) ∧ Hid (RAlc w' (w.heap.size + 1) p m (seq16 f q) 0) ∧ Rx16 w w') := fun W A c hW hl =>
    (refFrom_good16 (hI.later hW.bel) hM hq hl (seq16_in h1) (seq16_rises f q) (by omega)).mono fun e w' ⟨p, h1, h2, h3⟩ => ⟨p, h1, h2.mono (block_lt hW.flt), hW.later h3⟩
  have HX := Lib.hid hX
  clear hI hM hX
  simp only [rf]
  obtain ⟨Am0, cm0, hm1, hm2, hm3⟩ := HM.out w0 HX.out
  have hd1 : decide ((f : Int) < 1) = false := decide_eq_false (by omega)
  have hd2 : decide ((q : Int) < (f : Int)) = false := decide_eq_false (by omega)
  have hd3 : decide (q < f) = false := decide_eq_false (by omega)
  go_enter Tryz.func10, Tryz.ntmps10
  go_wp2
  go_loopw [6, 7] (fun s i wr => ∃ k : Nat, f ≤ k ∧ k ≤ q ∧ i = .int .i64 k ∧ Hid (Below w0.heap.size w0 wr) ∧ Hid (wr.ownsRow w0.heap.size 3 1 s (k - f) (i64s (seq16 f k)))) (fun _ i _ => q - (intOf i).toNat)
  case atStart => exact ⟨f, Nat.le_refl _, h2, rfl, Below.refl _ _, by rw [seq16_start, Nat.sub_self]; exact World.ownsRow_nil _ _ _ _⟩
  case round =>
    clear hm3
    obtain ⟨k, hk1, hk2, rfl, hbr, ho⟩ := hrel
    have hxr := HX.out.later hbr.out
    have HXR := Lib.hid hxr
    obtain ⟨Am, cm, hc1, hc2, hcm⟩ := HM.out wr hxr
    by_cases hlt : k < q
    · go_wp2_with (at_builtin; refine wpList_append_new wr rfl _ _ 23 rfl w0.heap.size 3 3 (.int .i64 0) 8 Tryz.underlying23 info_i64 rfl u6 (k - f) _ rfl ho hbr.out.size [.int .i64 (k : Int)] 1 1 rfl rfl (i64s_one [(k : Int)]) (by omega) (by omega) ?_; intro v2 w2 hown2 hs2 hb2)
      go_roundw
      case rel =>
        have hx := hown2.out
        rw [show i64s (seq16 f k) ++ [.int .i64 (k : Int)] = i64s (seq16 f (k + 1)) by rw [seq16_succ hk1, i64s_append]; rfl, show k - f + 1 = k + 1 - f by omega] at hx
        exact ⟨k + 1, by omega, by omega, by go_num, hbr.out.trans hb2, hx⟩
      case measure => simp only [intOf]; omega
    · obtain rfl : k = q := by omega
      obtain ⟨A1, c1, rfl, hI1⟩ := Ints.of_own ho.out
      have HI1 := Lib.hid hI1
      clear hI1 ho
      go_wp2_with (go_at_call 12; (with_reducible refine (FG.out _ _ _ HXR.out HI1.out).mono ?_); rintro e w2 ⟨p, rfl, ha, hx2⟩; have HX2 := Lib.hid hx2; obtain ⟨⟨z0, z1⟩, z2, z3⟩ := hx2.flt.cs; clear hx2)
      refine bodyPost_ret (blk_resT Tryz.results10 _ _ rfl (HX2.out.flt.store _ _).load) rfl ?_
      exact ⟨p, rfl, (ha.out.two (Nat.lt_succ_self _) _ _).mono (Nat.le_succ _), below_store2 HX2.out.bel (Nat.le_refl _) _ _⟩
end

section
variable {w : World} {base p m : Nat} {fr : List Int} {u : Nat}
set_option maxRecDepth 100000 in
set_option maxHeartbeats 1600000 in
theorem refTake_none16 (h : RAlc w base p m [] u) : Calls Tryz.prog 16 #[.pointer (some ⟨p, 0, none⟩)] w fun e w' => e = .returned (.tuple #[.int .i64 0, rf none 0 0 14]) ∧ Below w.heap.size w w' := by
  have hX := Rx16.start w
  obtain ⟨w0, hw0⟩ : ∃ w0, w.alloc (.cells #[.slice none 0 0, .int .i64 0] 37) = w0 := ⟨_, rfl⟩
  rw [hw0] at hX
  obtain ⟨_, A, c, h1, h2, h3⟩ := h.later hX.bel
  obtain ⟨k0, k1, k2, k3, k4⟩ := RAlc.cells h1
  simp only [List.length_nil] at k1
  obtain ⟨⟨y0, y1⟩, y2, y3⟩ := hX.flt.cs
  have HX := Lib.hid hX
  clear h hX h1 h2 h3
  simp only [rf]
  go_enter Tryz.func16, Tryz.ntmps16
  go_wp2
  refine bodyPost_ret (blk_resT Tryz.results16 _ _ rfl (HX.out.flt.store _ _).load) rfl ?_
  exact ⟨rfl, below_store2 HX.out.bel (Nat.le_refl _) _ _⟩

set_option maxRecDepth 100000 in
set_option maxHeartbeats 1600000 in
theorem refTake_some16 {x : Int} (h : RAlc w base p m (x :: fr) u) (hu : u ≤ 1000000) : Calls Tryz.prog 16 #[.pointer (some ⟨p, 0, none⟩)] w fun e w' => e = .returned (.tuple #[.int .i64 x, rf none 0 0 0]) ∧ RAlc w' base p m fr (u + 1) ∧ w.grownBy w' (some p) := by
  have hX := Rx16.start w
  obtain ⟨w0, hw0⟩ : ∃ w0, w.alloc (.cells #[.slice none 0 0, .int .i64 0] 37) = w0 := ⟨_, rfl⟩
  rw [hw0] at hX
  have hplt := h.plt
  obtain ⟨hbp, A, c, h1w, h2w, h3⟩ := h
  obtain ⟨b, off, rfl, hbl, hccw⟩ := h2w.row.lit (by simp [i64s])
  have h1 := (hX.bel.block p hplt).trans h1w
  have h2 := h2w.below hX.bel
  obtain ⟨k0, k1, k2, k3, k4⟩ := RAlc.cells h1
  have hx : w0.cell? ⟨b, off, none⟩ = some (.int .i64 x) := (hX.bel.cell (p := ⟨b, off, none⟩) hbl).trans (by simpa using hccw 0 _ rfl)
  obtain ⟨A2, hs, hi, ha⟩ := cut_from16 h2 (t := 1) (by simp)
  have hs' : ∀ V, (Instr.slice 23 (.slice (some ⟨b, off, none⟩) (fr.length + 1) c) (some (.int .i64 1)) none none).run Tryz.prog V = .ok (.slice A2 fr.length (c - 1)) V := hs
  have hi' : Ints w0 A2 fr.length (c - 1) fr := hi
  simp only [List.length_cons] at k1
  obtain ⟨⟨y0, y1⟩, y2, y3⟩ := hX.flt.cs
  have hw := hX.bel
  have hne : p ≠ w.heap.size := by omega
  have hlow : ∀ ad, A2 = some ad → (base ≤ ad.block ∧ ad.block < p) ∧ ad.block < w.heap.size := fun ad e => by
    obtain ⟨ad', e1, e2⟩ := ha ad e
    rw [e2]
    refine ⟨h3 ad' e1, ?_⟩
    cases e1
    exact hbl
  have hcn := h2.cap
  have hcm := h2.most
  simp only [List.length_cons] at hcn
  obtain ⟨U, hU⟩ : ∃ U, (w0.setCell ⟨p, 1, none⟩ (.slice A2 fr.length (c - 1))).setCell ⟨p, 2, none⟩ (.int .i64 ((u : Int) + 1)) = U := ⟨_, rfl⟩
  have hUk : ∀ k, k ≠ p → U.heap[k]? = w0.heap[k]? := fun k hk => by
    rw [← hU, heap_setCell_other _ _ k _ hk, heap_setCell_other _ _ k _ hk]
  have hUp : U.heap[p]? = some (.cells #[.pointer (some ⟨m, 0, none⟩), .slice A2 fr.length (c - 1), .int .i64 ((u : Int) + 1)] 54 (0, 0)) := by
    rw [← hU]
    have b0 : Blk w0 p 54 [.pointer (some ⟨m, 0, none⟩), .slice (some ⟨b, off, none⟩) (x :: fr).length c, .int .i64 (u : Int)] := h1
    exact (b0.set 1 _).set 2 _
  have hUg : w.grownBy U (some p) := by
    refine ⟨by rw [← hU]; exact hw.os, by rw [← hU]; exact hw.tape, by rw [← hU]; exact hw.output, by rw [← hU]; simpa [World.setCell] using hw.size, fun k hk hne => ?_⟩
    rw [hUk k (fun e => hne (by rw [e]))]
    exact hw.block k hk
  have hUf : FltAt U w.heap.size (.slice none 0 0) (.int .i64 0) := (hUk _ (fun e => hne e.symm)).trans hX.flt
  have FIN : Hid (∀ W : World, (∀ k, k < w.heap.size → W.heap[k]? = U.heap[k]?) → RAlc W base p m fr (u + 1)) := fun W hW => by
    refine ⟨hbp, A2, c - 1, (hW p hplt).trans hUp, ⟨hi'.len, hi'.cap, hi'.most, fun k v e => ?_⟩, fun ad e => (hlow ad e).1⟩
    obtain ⟨ad, ea, hc⟩ := hi'.row k v e
    refine ⟨ad, ea, ?_⟩
    have hbk : (ad.add k).block = ad.block := addr_add_block ad k
    obtain ⟨⟨_, hq⟩, hq2⟩ := hlow ad ea
    exact (World.cell?_of_block (w := w0) (by rw [hbk, hW _ hq2, hUk _ (Nat.ne_of_lt hq)])).trans hc
  have hnz : ¬ ((fr.length : Int) + 1 = 0) := by omega
  obtain ⟨⟨z0, z1⟩, z2, z3⟩ := hUf.cs
  have HUF := Lib.hid hUf
  have HUG := Lib.hid hUg
  have HUS := Lib.hid (block_lt hUf)
  clear hX h1 h2 h3 h1w h2w hccw hs hi hi' ha hlow hbl hw hUk hUp hUg hUf
  simp only [rf]
  generalize fr.length = n at *
  generalize c - 1 = c2 at *
  go_enter Tryz.func16, Tryz.ntmps16
  go_wp2
  refine bodyPost_ret (blk_resT Tryz.results16 _ _ rfl (HUF.out.store _ _).load) rfl ?_
  exact ⟨rfl, FIN.out _ fun k hk => by rw [heap_setCell_other _ _ k _ (Nat.ne_of_lt hk), heap_setCell_other _ _ k _ (Nat.ne_of_lt hk)], grown_box HUG.out _ _⟩

set_option maxRecDepth 100000 in
set_option maxHeartbeats 1600000 in
theorem refAhead16 (k : Nat) (h : RAlc w base p m fr u) (hk : k ≤ 1000000) (hf : fr.length ≤ 1000000) : Calls Tryz.prog 23 #[.pointer (some ⟨p, 0, none⟩), .int .i64 (k : Int)] w fun e w' => ∃ A2 n2 c2, e = .returned (.slice A2 n2 c2) ∧ Ints w' A2 n2 c2 (fr.take k) ∧ Below w.heap.size w w' := by
  have HH := Lib.hid h
  obtain ⟨A, c, HK⟩ : ∃ A c, Hid (∀ W, Below w.heap.size w W → W.cell? ⟨p, 1, none⟩ = some (.slice A fr.length c) ∧ Ints W A fr.length c fr) := by
    have hp := h.plt
    obtain ⟨_, A, c, h1, h2, _⟩ := h
    exact ⟨A, c, fun W hW => ⟨(hW.cell (p := ⟨p, 1, none⟩) hp).trans (RAlc.cells h1).2.1, h2.below hW⟩⟩
  have hcap := (HK.out w (Below.refl _ _)).2.cap
  have hmost := (HK.out w (Below.refl _ _)).2.most
  clear h HH
  obtain ⟨n, hn⟩ : ∃ n, fr.length = n := ⟨_, rfl⟩
  rw [hn] at HK hcap hf
  have HN := Lib.hid hn
  clear hn
  go_enter Tryz.func23, Tryz.ntmps23
  go_wp2
  go_loopw [5, 6] (fun s i wr => ∃ j : Nat, j ≤ k ∧ j ≤ n ∧ i = .int .i64 j ∧ Hid (Below w.heap.size w wr) ∧ Hid (wr.ownsRow w.heap.size 3 1 s j (i64s (fr.take j)))) (fun _ i _ => k - (intOf i).toNat)
  case atStart => exact ⟨0, by omega, by omega, rfl, Below.refl _ _, by simp only [List.take_zero]; exact World.ownsRow_nil _ _ _ _⟩
  case round =>
    obtain ⟨j, hj1, hj2, rfl, hbr, ho⟩ := hrel
    obtain ⟨hc1, hI⟩ := HK.out wr hbr.out
    by_cases hlt : j < k
    · by_cases hlt2 : j < n
      · have hd1 : decide ((j : Int) < (k : Int)) = true := decide_eq_true (by omega)
        have hd2 : decide ((j : Int) < (n : Int)) = true := decide_eq_true (by omega)
        have hjl : j < fr.length := by have := HN.out; omega
        obtain ⟨b, off, rfl, hbl, hcc⟩ := hI.row.lit (by rw [i64s_length]; omega)
        have hcj := hcc j _ (i64s_at fr j hjl)
        have HT : Hid (i64s (fr.take j) ++ [.int .i64 fr[j]] = i64s (fr.take (j + 1))) := by
          show _ = _
          rw [List.take_succ_eq_append_getElem hjl, i64s_append]
          rfl
        clear hcc hI
        generalize fr[j] = x at *
        go_wp2_with (at_builtin; refine wpList_append_new wr rfl _ _ 23 rfl w.heap.size 3 3 (.int .i64 0) 8 Tryz.underlying23 info_i64 rfl u5 j _ rfl ho hbr.out.size [.int .i64 x] 1 1 rfl rfl (i64s_one [x]) (by omega) (by omega) ?_; intro v2 w2 hown2 hs2 hb2)
        go_roundw
        case rel =>
          have hx := hown2.out
          rw [HT.out] at hx
          exact ⟨j + 1, by omega, by omega, by go_num, hbr.out.trans hb2, hx⟩
        case measure => simp only [intOf]; omega
      · obtain rfl : j = n := by omega
        have hd1 : decide ((j : Int) < (k : Int)) = true := decide_eq_true (by omega)
        have e : fr.take k = fr.take j := by rw [List.take_of_length_le (by have := HN.out; omega), List.take_of_length_le (by have := HN.out; omega)]
        rw [← e] at ho
        obtain ⟨A1, c1, rfl, hI1⟩ := Ints.of_own ho.out
        have HI1 := Lib.hid hI1
        clear hI1 ho e hI
        go_wp2
        go_ret
        exact ⟨A1, j, c1, rfl, HI1.out, hbr.out⟩
    · obtain rfl : j = k := by omega
      have hd1 : decide ((j : Int) < (j : Int)) = false := decide_eq_false (by omega)
      obtain ⟨A1, c1, rfl, hI1⟩ := Ints.of_own ho.out
      have HI1 := Lib.hid hI1
      clear hI1 ho hI
      go_wp2
      go_ret
      exact ⟨A1, j, c1, rfl, HI1.out, hbr.out⟩
end
end Go.Proofs.YtajeelbeochojaaGreatDoor

/-
  Layer 16: the reference's Lay; layer 11's Write of the reference once more, with what it leaves told block by block.
-/
namespace Go.Proofs.YtajeelbeochojaaGreatDoor
open Go.RowKit
set_option linter.unusedVariables false
set_option linter.unusedSimpArgs false

/-- an error at a block, as the document has it, newer than block B -/
def BadAtN16 (B : Nat) (w : World) (v : Value) (no x : Int) : Prop := ∃ A n c, v = rf A n c x ∧ Ints w A n c (atL no x) ∧ Newer B A
/-- a block that was not there -/
theorem grown_new16 {w w' : World} {r : Option Nat} (h : w.grownBy w' (some w.heap.size)) : w.grownBy w' r := ⟨h.os, h.tape, h.output, h.size, fun k hk _ => h.block k hk (fun e => by injection e; omega)⟩

set_option maxRecDepth 100000 in
set_option maxHeartbeats 1600000 in
theorem ref11Write_badN {w : World} (pv : Value) (no kind : Int) {A : Option Addr} {m c : Nat} {l : List UInt8} (hB : Bytes8 w A m c l) (hs : sealE kind no l.length ≠ 0) :
    Calls Tryz.prog 38 #[pv, .int .i64 no, .int .i64 kind, .slice A m c] w fun e w' => ∃ f, e = .returned f ∧ BadAtN16 w.heap.size w' f no (sealE kind no l.length) ∧ Below w.heap.size w w' := by
  have S : Hid (∀ W, Bx w W → Calls Tryz.prog 57 #[.int .i64 kind, .int .i64 no, .slice A m c] W fun e w' => ∃ A' m' c', e = .returned (.tuple #[.slice A' m' c', .int .i64 (sealE kind no m)]) ∧ Bx w w') := fun W hW => (refSeal_any kind no A m c l W (hB.below hW.bel)).mono fun e w' ⟨A', m', c', h1, _, h3⟩ => ⟨A', m', c', h1, hW.later h3⟩
  have AT : Hid (∀ W x, Bx w W → Calls Tryz.prog 58 #[.int .i64 no, .int .i64 x] W fun e w' => ∃ A n c, e = .returned (.agg #[.slice A n c, .int .i64 x]) ∧ Ints w' A n c (atL no x) ∧ Newer (w.heap.size + 1) A ∧ Bx w w') := fun W x hW => (ref11At_any no x W).mono fun e w' ⟨A, n, c, h1, h2, h3, h4⟩ => ⟨A, n, c, h1, h2, h3.mono hW.low, hW.later h4⟩
  rw [hB.len] at hs ⊢
  have hne : (sealE kind no m != 0) = true := by simpa using hs
  have hN0 := Bx.start w
  clear hB hs
  generalize sealE kind no m = x at *
  go_enter Tryz.func38, Tryz.ntmps38
  go_wp2_with (first
    | (go_at_call 57; (with_reducible refine (S.out _ hN0).mono ?_); rintro e w1 ⟨A1, m1, c1, rfl, hN1⟩)
    | (go_at_call 58; (with_reducible refine (AT.out _ _ hN1).mono ?_); rintro e w3 ⟨A3, n3, c3, rfl, hI3, hn3, hN3⟩; have HI3 := Lib.hid hI3; have HN3 := Lib.hid hn3; clear hI3 hn3; obtain ⟨⟨z0, z1⟩, y0, y1⟩ := hN3.flt.cs))
  refine bodyPost_ret (results_rf Tryz.results38 _ _ w.heap.size (.slice A3 n3 c3) (.int .i64 x) rfl (hN3.flt.store _ _)) rfl ?_
  exact ⟨_, rfl, ⟨A3, n3, c3, rfl, HI3.out.newer HN3.out (two_keep w3 w.heap.size _ _ (by omega)), HN3.out.mono (Nat.le_succ _)⟩, below_store2 hN3.bel (Nat.le_refl _) _ _⟩

set_option maxRecDepth 100000 in
set_option maxHeartbeats 1600000 in
theorem ref11Write_ofN {w : World} {B p g : Nat} {v : Value} {M M' : List (List UInt8)} (no kind y : Int) {A : Option Addr} {m c : Nat} {l : List UInt8} (hR : RImg w B p v M) (hB : Bytes8 w A m c l) (hs : sealE kind no l.length = 0) (hg : p + 1 ≤ g)
    (WR : ∀ W A c, Below w.heap.size w W → BxG w W g → Bytes8 W A 256 c (sealB kind no l) → Calls Tryz.prog 59 #[.pointer (some ⟨p, 0, none⟩), .int .i64 no, .slice A 256 c] W fun e w' => e = .returned (.int .i64 y) ∧ RImg w' B p v M' ∧ BxG w w' g) :
    Calls Tryz.prog 38 #[.pointer (some ⟨p, 0, none⟩), .int .i64 no, .int .i64 kind, .slice A m c] w fun e w' => ∃ f, e = .returned f ∧ BadAtN16 w.heap.size w' f no y ∧ RImg w' B p v M' ∧ Below (p + 1) w w' ∧ w.grownBy w' (some g) := by
  have S : Hid (∀ W, BxG w W g → Below w.heap.size w W → Calls Tryz.prog 57 #[.int .i64 kind, .int .i64 no, .slice A m c] W fun e w' => ∃ A' c', e = .returned (.tuple #[.slice A' 256 c', .int .i64 0]) ∧ Bytes8 w' A' 256 c' (sealB kind no l) ∧ BxG w w' g ∧ Below w.heap.size w w') := fun W hW hb => by
    refine (refSeal_any kind no A m c l W (hB.below hb)).mono ?_
    rintro e w' ⟨A', m', c', h1, h2, h3⟩
    obtain rfl : 256 = m' := by rw [← h2.len, sealB_length hs]
    exact ⟨A', c', by rw [h1, ← hB.len, hs], h2, hW.later h3, hb.trans (h3.mono hb.size)⟩
  have AT : Hid (∀ W x, BxG w W g → RImg W B p v M' → Calls Tryz.prog 58 #[.int .i64 no, .int .i64 x] W fun e w' => ∃ A n c, e = .returned (.agg #[.slice A n c, .int .i64 x]) ∧ Ints w' A n c (atL no x) ∧ Newer (w.heap.size + 1) A ∧ BxG w w' g ∧ RImg w' B p v M') := fun W x hW hi => (ref11At_any no x W).mono fun e w' ⟨A, n, c, h1, h2, h3, h4⟩ => ⟨A, n, c, h1, h2, h3.mono (block_lt hW.flt), hW.later h4, hi.later h4⟩
  have W2 := Lib.hid WR
  have hN0 := BxG.start w g
  have hb0 : Below w.heap.size w (w.alloc (.cells #[.slice none 0 0, .int .i64 0] 37)) := (Below.refl _ _).alloc (Nat.le_refl _) _
  have hpl : p + 1 ≤ w.heap.size := hR.plt
  clear hB hs WR hR
  generalize sealB kind no l = bb at *
  go_enter Tryz.func38, Tryz.ntmps38
  go_wp2_with (first
    | (go_at_call 57; (with_reducible refine (S.out _ hN0 hb0).mono ?_); rintro e w1 ⟨A1, c1, rfl, hB1, hN1, hb1⟩; have HB1 := Lib.hid hB1; clear hB1)
    | (go_at_call 59; (with_reducible refine (W2.out _ _ _ hb1 hN1 HB1.out).mono ?_); rintro e w2 ⟨rfl, hi2, hN2⟩)
    | (go_at_call 58; (with_reducible refine (AT.out _ _ hN2 hi2).mono ?_); rintro e w3 ⟨A3, n3, c3, rfl, hI3, hn3, hN3, hi3⟩; have HI3 := Lib.hid hI3; have HN3 := Lib.hid hn3; have HM3 := Lib.hid hi3; clear hI3 hn3 hi3; obtain ⟨⟨z0, z1⟩, y0, y1⟩ := hN3.flt.cs))
  refine bodyPost_ret (results_rf Tryz.results38 _ _ w.heap.size (.slice A3 n3 c3) (.int .i64 y) rfl (hN3.flt.store _ _)) rfl ?_
  exact ⟨_, rfl, ⟨A3, n3, c3, rfl, HI3.out.newer HN3.out (two_keep w3 w.heap.size _ _ (by omega)), HN3.out.mono (Nat.le_succ _)⟩, HM3.out.box hN3.flt _ _, below_store2 (below_grown hN3.gr hg hpl) hpl _ _, grown_box hN3.gr _ _⟩

/-- of an image -/
theorem ref11Write_anyN {w : World} {B p n : Nat} {v : Value} {L : List UInt8} (no kind : Int) (h : RImg w B p v (blks L n)) (hL : L.length = n * 256) {A : Option Addr} {m c : Nat} {l : List UInt8} (hB : Bytes8 w A m c l) :
    Calls Tryz.prog 38 #[.pointer (some ⟨p, 0, none⟩), .int .i64 no, .int .i64 kind, .slice A m c] w fun e w' => ∃ f, e = .returned f ∧ BadAtN16 w.heap.size w' f no (wrE11 n no kind l) ∧ RImg w' B p v (blks (wrL11 L n no kind l) n) ∧ w.grownBy w' v.ownBlock ∧ Keeps w w' := by
  have hpl : p + 1 ≤ w.heap.size := h.plt
  by_cases hs : sealE kind no l.length = 0
  · rw [wrE11_ok hs]
    cases ho : outB n no with
    | true =>
      rw [wrL11_bad (by rw [wrE11_ok hs, ho]; decide), if_pos rfl]
      exact (ref11Write_ofN (g := w.heap.size) no kind 3 h hB hs hpl fun W A' c' hW hx hb =>
        (refWrite_bad no A' 256 c' W (h.later hW) (by rw [blks_length]; exact outB_iff.1 ho)).mono fun e w' ⟨h1, h2⟩ => ⟨h1, h2 ▸ h.later hW, h2 ▸ hx⟩).mono fun e w' ⟨f, h1, h2, h3, h4, h5⟩ => ⟨f, h1, h2, h3, grown_new16 h5, Keeps.of_grown h5 (fun c e => by rw [Array.getElem?_eq_none (Nat.le_refl _)] at e; cases e)⟩
    | false =>
      obtain ⟨h0, h1⟩ := outB_not.1 ho
      obtain ⟨k, rfl⟩ := Int.eq_ofNat_of_zero_le h0
      rw [wrL11_good (by rw [wrE11_ok hs, ho]; rfl), if_neg (by decide)]
      have hk : k < (blks L n).length := by rw [blks_length]; omega
      obtain ⟨g, cap, cur, hv, hg, hh, q1, q2, q3, q4⟩ := h.lit (by omega)
      have e : (blks L n).set k (sealB kind k l) = blks (splice L (((k : Int)).toNat * 256) (sealB kind k l)) n := by
        have hw : wE n (k : Int) 256 = 0 := by unfold wE; rw [if_neg (by omega), if_pos rfl]
        have := wM_blks (q := n) (k := (k : Int)) (m := 256) (L := L) (l := sealB kind k l) hL (sealB_length hs)
        rw [wM, wL, hw, if_pos rfl, if_pos rfl] at this
        exact this
      rw [← e]
      refine (ref11Write_ofN (g := g) k kind 0 h hB hs hg fun W A' c' hW hx hb =>
        (refWrite_put2 k A' c' _ W (h.later hW) hk hv hg ((hW.block g (block_lt hh)).trans hh) q1 q2 q3 q4 hb).mono fun e w' ⟨h1, h2, h3⟩ => ⟨h1, h2, ⟨(h3.block _ (block_lt hx.flt) (fun e => by injection e with e; have := block_lt hh; omega)).trans hx.flt, grown_trans hx.gr h3⟩⟩).mono fun e w' ⟨f, h1, h2, h3, h4, h5⟩ => ⟨f, h1, h2, h3, by rw [hv]; exact h5, Keeps.of_grown h5 (fun c e => ?_)⟩
      rw [hh] at e
      injection e with e
      injection e with _ e2 _
      exact absurd e2 (by decide)
  · rw [wrL11_bad (by rw [wrE11_seal hs]; exact hs), wrE11_seal hs]
    exact (ref11Write_badN _ no kind hB hs).mono fun e w' ⟨f, h1, h2, h3⟩ => ⟨f, h1, h2, h.later h3, grown_below h3 _, Keeps.of_below h3⟩

section
variable {w w' : World} {base p m B : Nat} {v : Value} {fr : List Int} {u : Nat} {M : List (List UInt8)}
theorem RImg.own_of {L : List (List UInt8)} (h : RImg w B p v L) : ∀ k, v.ownBlock = some k → p < k ∧ k < w.heap.size := fun k hk => by
  rcases h.own.2 with ⟨rfl, _⟩ | ⟨g, cap, cur, rfl, hg, hh, _⟩
  · cases hk
  · have hk : some g = some k := hk
    injection hk with hk
    subst hk
    exact ⟨hg, block_lt hh⟩
/-- a block of neither changed -/
theorem RImg.mov {L : List (List UInt8)} (h : RImg w B p v L) (hp : w'.heap[p]? = w.heap[p]?) (hg : ∀ k, v.ownBlock = some k → w'.heap[k]? = w.heap[k]?) : RImg w' B p v L := by
  refine ⟨h.bp, hp.trans h.hp, h.own.1, ?_⟩
  rcases h.own.2 with hn | ⟨g, cap, cur, hv, hg2, hh, rest⟩
  · exact .inl hn
  · exact .inr ⟨g, cap, cur, hv, hg2, (hg g (by rw [hv]; rfl)).trans hh, rest⟩
theorem RAImg.two {g : Nat} (h : RAImg w base p m B v fr u M) (hg : p < g) (x y : Value) :
    RAImg ((w.setCell ⟨g, 0, none⟩ x).setCell ⟨g, 1, none⟩ y) base p m B v fr u M := by
  have hb := h.ra.1
  have hk : ∀ k, k ≠ g → ((w.setCell ⟨g, 0, none⟩ x).setCell ⟨g, 1, none⟩ y).heap[k]? = w.heap[k]? := fun k hk => by
    rw [heap_setCell_other _ _ k _ hk, heap_setCell_other _ _ k _ hk]
  exact ⟨h.ra.new_two hg x y, h.ri.mov (hk m (by have := h.mlt; omega)) (fun k e => hk k (by have := h.own k e; omega)), h.mlt, h.own⟩

section
variable {w W w2 : World} {base p m B : Nat} {v : Value} {fr : List Int} {u : Nat} {M : List (List UInt8)} {A : Option Addr} {n c : Nat} {no x : Int}
/-- the write's answer is laid into a new variable -/
theorem Ly16.made (h1 : Rx16 w W) (h2 : Ints w2 A n c (atL no x)) (h3 : Newer W.heap.size A) (h4 : RAImg w2 base p m B v fr u M) (h5 : W.grownBy w2 v.ownBlock) (hb : base ≤ w.heap.size) :
    Ly16 w (w2.alloc (.cells #[.slice A n c, .int .i64 x] 37)) w.heap.size w2.heap.size base p m B v fr u M A n c no x := by
  have hal : Below w2.heap.size w2 (w2.alloc (.cells #[.slice A n c, .int .i64 x] 37)) := (Below.refl _ _).alloc (Nat.le_refl _) _
  have hf : FltAt w2 w.heap.size (.slice none 0 0) (.int .i64 0) := (h5.block _ (block_lt h1.flt) (fun e => by have := h4.own _ e.symm; omega)).trans h1.flt
  exact ⟨grown_trans (grown_trans (grown_below h1.bel _) h5) (grown_below hal _), hf.later hal, FltAt.new w2 _ _, h2.below hal, h3.mono (block_lt h1.flt), h4.later hal⟩
/-- the error goes into the result's variable -/
theorem Ly16.fin {b : Nat} (h : Ly16 w W w.heap.size b base p m B v fr u M A n c no x) (hx : x ≠ 0) (hp : p < w.heap.size) : Ints ((W.setCell ⟨w.heap.size, 0, none⟩ (.slice A n c)).setCell ⟨w.heap.size, 1, none⟩ (.int .i64 x)).drew A n c [no] ∧
    RAImg ((W.setCell ⟨w.heap.size, 0, none⟩ (.slice A n c)).setCell ⟨w.heap.size, 1, none⟩ (.int .i64 x)).drew base p m B v fr u M ∧ Fr2 w ((W.setCell ⟨w.heap.size, 0, none⟩ (.slice A n c)).setCell ⟨w.heap.size, 1, none⟩ (.int .i64 x)).drew v.ownBlock (some p) := by
  have hi := h.ints
  rw [atL, if_neg hx] at hi
  have hb : ∀ V : World, Below V.heap.size V V.drew := fun V => (Below.refl _ _).drew
  refine ⟨(hi.newer h.new (two_keep W w.heap.size _ _ (Nat.lt_succ_self _))).below (hb _), (h.rai.two hp _ _).later (hb _), ?_⟩
  exact ((Fr2.of_one h.gr _).two (Nat.le_refl _) _ _).trans (Fr2.of_below (hb _) _ _)
/-- or into a variable that was laid before it -/
theorem Ly16.fill (h1 : Rx16 w W) {g : Nat} (hf0 : FltAt w2 g (.slice none 0 0) (.int .i64 0)) (hg : g < W.heap.size) (hg2 : w.heap.size < g) (hg3 : p < g) (h2 : Ints w2 A n c (atL no x)) (h3 : Newer W.heap.size A) (h4 : RAImg w2 base p m B v fr u M) (h5 : W.grownBy w2 v.ownBlock) (hb : base ≤ w.heap.size) :
    Ly16 w ((w2.setCell ⟨g, 0, none⟩ (.slice A n c)).setCell ⟨g, 1, none⟩ (.int .i64 x)) w.heap.size g base p m B v fr u M A n c no x := by
  have hf : FltAt w2 w.heap.size (.slice none 0 0) (.int .i64 0) := (h5.block _ (block_lt h1.flt) (fun e => by have := h4.own _ e.symm; omega)).trans h1.flt
  have hk : ∀ k, k ≠ g → ((w2.setCell ⟨g, 0, none⟩ (.slice A n c)).setCell ⟨g, 1, none⟩ (.int .i64 x)).heap[k]? = w2.heap[k]? := fun k hk => by
    rw [heap_setCell_other _ _ k _ hk, heap_setCell_other _ _ k _ hk]
  have hgr : w.grownBy w2 v.ownBlock := grown_trans (grown_below h1.bel _) h5
  refine ⟨⟨hgr.os, hgr.tape, hgr.output, by simpa [World.setCell] using hgr.size, fun k hk1 hk2 => (hk k (by omega)).trans (hgr.block k hk1 hk2)⟩, (hk _ (Nat.ne_of_lt hg2)).trans hf, hf0.store _ _, ?_, h3.mono (block_lt h1.flt), h4.two hg3 _ _⟩
  exact h2.newer h3 (fun k hk2 => hk k (by omega))
end

set_option maxRecDepth 100000 in
set_option maxHeartbeats 1600000 in
theorem refLay_none16 (kind : Int) (Ai : Option Addr) (ni ci : Nat) (h : RAlc w base p m [] u) : Calls Tryz.prog 18 #[.pointer (some ⟨p, 0, none⟩), .int .i64 kind, .slice Ai ni ci] w fun e w' => e = .returned (.tuple #[.int .i64 0, rf none 0 0 14]) ∧ Below w.heap.size w w' := by
  have hX := Rx16.start w
  obtain ⟨w0, hw0⟩ : ∃ w0, w.alloc (.cells #[.slice none 0 0, .int .i64 0] 37) = w0 := ⟨_, rfl⟩
  rw [hw0] at hX
  obtain ⟨_, A, c, h1, h2, h3⟩ := h.later hX.bel
  obtain ⟨k0, k1, k2, k3, k4⟩ := RAlc.cells h1
  simp only [List.length_nil] at k1
  obtain ⟨⟨y0, y1⟩, y2, y3⟩ := hX.flt.cs
  have HX := Lib.hid hX
  clear h hX h1 h2 h3
  simp only [rf]
  go_enter Tryz.func18, Tryz.ntmps18
  go_wp2
  refine bodyPost_ret (blk_resT Tryz.results18 _ _ rfl (HX.out.flt.store _ _).load) rfl ?_
  exact ⟨rfl, below_store2 HX.out.bel (Nat.le_refl _) _ _⟩

set_option maxRecDepth 100000 in
set_option maxHeartbeats 3200000 in
theorem refLay_some16 {q : Nat} {L : List UInt8} {x : Int} (kind : Int) {Ai : Option Addr} {ni ci : Nat} {li : List UInt8} (h : RAImg w base p m B v (x :: fr) u (blks L q)) (hL : L.length = q * 256) (hB : Bytes8 w Ai ni ci li) (hu : u ≤ 1000000) :
    Calls Tryz.prog 18 #[.pointer (some ⟨p, 0, none⟩), .int .i64 kind, .slice Ai ni ci] w fun e w' =>
      (wrE11 q x kind li ≠ 0 ∧ ∃ A n c, e = .returned (.tuple #[.int .i64 0, rf A n c (wrE11 q x kind li)]) ∧ Ints w' A n c [x] ∧ Newer w.heap.size A ∧ RAImg w' base p m B v (x :: fr) u (blks L q) ∧ Fr2 w w' v.ownBlock (some p)) ∨
      (wrE11 q x kind li = 0 ∧ e = .returned (.tuple #[.int .i64 x, rf none 0 0 0]) ∧ RAImg w' base p m B v fr (u + 1) (blks (wrL11 L q x kind li) q) ∧ Fr2 w w' v.ownBlock (some p)) := by
  have hX := Rx16.start w
  obtain ⟨w0, hw0⟩ : ∃ w0, w.alloc (.cells #[.slice none 0 0, .int .i64 0] 37) = w0 := ⟨_, rfl⟩
  rw [hw0] at hX
  have HH := Lib.hid h
  have hplt := h.ra.plt
  obtain ⟨b, off, c, HC, hcap⟩ : ∃ b off c, Hid (∀ W, Fr2 w W v.ownBlock none → (W.cell? ⟨p, 0, none⟩ = some (.pointer (some ⟨m, 0, none⟩)) ∧ W.cell? ⟨p, 1, none⟩ = some (.slice (some ⟨b, off, none⟩) (fr.length + 1) c)) ∧ W.cell? ⟨b, off, none⟩ = some (.int .i64 x)) ∧ fr.length + 1 ≤ c ∧ c ≤ 9223372036854775807 := by
    have hown := h.own
    have hpl := h.ra.1
    obtain ⟨h0, A, c, h1, h2, h3⟩ := h.ra
    obtain ⟨b, off, rfl, hbl, hcc⟩ := h2.row.lit (by simp [i64s])
    have hb3 := (h3 _ rfl).1
    refine ⟨b, off, c, fun W hW => ?_, h2.cap, h2.most⟩
    have e1 := hW.block p hplt (fun e => by have := hown p e.symm; omega) (by simp)
    have e2 := hW.block b hbl (fun e => by have := hown b e.symm; simp at hb3; omega) (by simp)
    obtain ⟨k0, k1, _⟩ := RAlc.cells (e1.trans h1)
    exact ⟨⟨k0, k1⟩, (World.cell?_of_block (w := w) e2).trans (by simpa using hcc 0 _ rfl)⟩
  have WR : Hid (∀ W, Rx16 w W → Calls Tryz.prog 38 #[.pointer (some ⟨m, 0, none⟩), .int .i64 x, .int .i64 kind, .slice Ai ni ci] W fun e w' => ∃ A n c, e = .returned (.agg #[.slice A n c, .int .i64 (wrE11 q x kind li)]) ∧ Hid (Ints w' A n c (atL x (wrE11 q x kind li)) ∧ Newer W.heap.size A ∧ RAImg w' base p m B v (x :: fr) u (blks (wrL11 L q x kind li) q) ∧ W.grownBy w' v.ownBlock)) := fun W hW => by
    have hl := h.later hW.bel
    refine (ref11Write_anyN x kind hl.ri hL (hB.below hW.bel)).mono ?_
    rintro e w' ⟨f, h1, ⟨A, n, c, h2, h3, h4⟩, h5, h6, h7⟩
    exact ⟨A, n, c, by rw [h1, h2]; rfl, h3, h4, ⟨hl.ra.grown h6 (fun k e => (h.own k e).2), h5, h.mlt, h.own⟩, h6⟩
  have HB1 := Lib.hid hX
  have HWB : Hid (wrE11 q x kind li ≠ 0 → wrL11 L q x kind li = L) := fun h => wrL11_bad h
  have HOW := Lib.hid h.own
  have HPZ : Hid (w.heap.size = p → False) := fun e => by omega
  have HBS : Hid (base ≤ w.heap.size) := by have := h.ra.1; show _ ≤ _; omega
  have TK : Hid (∀ W M, RAImg W base p m B v (x :: fr) u M → Calls Tryz.prog 16 #[.pointer (some ⟨p, 0, none⟩)] W fun e w' => e = .returned (.tuple #[.int .i64 x, .agg #[.slice none 0 0, .int .i64 0]]) ∧ Hid (RAImg w' base p m B v fr (u + 1) M ∧ W.grownBy w' (some p))) := fun W M hW => (refTake_some16 hW.ra hu).mono fun e w' ⟨h1, h2, h3⟩ => ⟨h1, ⟨h2, hW.ri.mov (h3.block m hW.ri.plt (fun e => by injection e with e; have := hW.mlt; have := hW.ra.1; omega)) (fun k e => h3.block k (hW.ri.own_of k e).2 (fun e2 => by injection e2 with e2; have := hW.own k e; have := hW.ra.1; omega)), hW.mlt, hW.own⟩, h3⟩
  obtain ⟨hc1, hc2⟩ := hcap
  clear h hX hB hL hu
  generalize wrE11 q x kind li = xe at *
  generalize wrL11 L q x kind li = L2 at *
  generalize fr.length = nf at *
  simp only [rf]
  have hnz : ¬ ((nf : Int) + 1 = 0) := by omega
  have hnz2 : ((nf : Int) + 1 == 0) = false := by simp; omega
  obtain ⟨⟨k0, k1⟩, k2⟩ := HC.out w0 (Fr2.of_below HB1.out.bel _ _)
  go_enter Tryz.func18, Tryz.ntmps18
  go_upto_region 3 with fail
  go_cut [8] (fun s8 wx => ∃ b A n c, s8 = .pointer (some ⟨b, 0, none⟩) ∧ Hid (Ly16 w wx w.heap.size b base p m B v (x :: fr) u (blks L2 q) A n c x xe))
  case first =>
    have HA := Lib.hid (HB1.out.later (Below.refl _ _).drew)
    have HB := Lib.hid (HB1.out.later ((Below.refl _ _).alloc (Nat.le_refl _) (.cells #[.slice none 0 0, .int .i64 0] 37)).drew)
    have HV := Lib.hid (FltAt.new w0 (.slice none 0 0) (.int .i64 0))
    have HW0 : Hid (∀ k, v.ownBlock = some k → k = w0.heap.size → False) := fun k e e2 => by have := HOW.out k e; have := HH.out.ra.1; have := hplt; have := HB1.out.bel.size; omega
    have hkd := HC.out w0.drew (Fr2.of_below HA.out.bel _ _)
    obtain ⟨⟨kd0, kd1⟩, kd2⟩ := hkd
    have hq2 : w0.heap.size ≠ p := by have := cell_lt k0; simp at this; omega
    have hq3 : w0.heap.size ≠ b := by have := cell_lt k2; simp at this; omega
    go_region_held3 (fun W => (W.cell? ⟨p, 0, none⟩ = some (.pointer (some ⟨m, 0, none⟩)) ∧ W.cell? ⟨p, 1, none⟩ = some (.slice (some ⟨b, off, none⟩) (nf + 1) c)) ∧ W.cell? ⟨b, off, none⟩ = some (.int .i64 x))
      (first | exact ⟨⟨kd0, kd1⟩, kd2⟩ | go_keep)
      (first
      | (go_at_call 38; (with_reducible refine (WR.out _ HA.out).mono ?_); rintro e w2 ⟨A5, n5, c5, rfl, HX⟩; have hcc := HC.out _ (Fr2.trans (Fr2.of_below HA.out.bel _ _) (Fr2.of_one HX.out.2.2.2 _)))
      | (go_at_call 38; (with_reducible refine (WR.out _ HB.out).mono ?_); rintro e w2 ⟨A5, n5, c5, rfl, HX⟩; have hcc := HC.out _ (Fr2.trans (Fr2.of_below HB.out.bel _ _) (Fr2.of_one HX.out.2.2.2 _)); have hV2 : FltAt w2 w0.heap.size (.slice none 0 0) (.int .i64 0) := (HX.out.2.2.2.block _ (block_lt HV.out) (fun e => HW0.out _ e.symm rfl)).trans HV.out; obtain ⟨⟨z0, z1⟩, z2, z3⟩ := hV2.cs; have HV2 := Lib.hid hV2; clear hV2))
    · have HF := Lib.hid (Ly16.made (no := x) HA.out HX.out.1 HX.out.2.1 HX.out.2.2.1 HX.out.2.2.2 HBS.out)
      clear HX hcc
      go_wp2_with fail
      go_meet
      exact ⟨_, A5, n5, c5, rfl, HF⟩
    · have HF := Lib.hid (Ly16.fill (no := x) HB.out HV2.out (by simp) (block_lt HB1.out.flt) (Nat.lt_trans hplt (block_lt HB1.out.flt)) HX.out.1 HX.out.2.1 HX.out.2.2.1 HX.out.2.2.2 HBS.out)
      clear HX hcc
      go_wp2_with fail
      go_meet
      exact ⟨_, A5, n5, c5, rfl, HF⟩
  case rest =>
    obtain ⟨g, A5, n5, c5, rfl, hY⟩ := hcut
    have hYd := hY.out.drew
    obtain ⟨⟨f0, f1⟩, _, _⟩ := hY.out.flt.cs
    obtain ⟨⟨r0, r1⟩, r2, r3⟩ := hY.out.res.cs
    obtain ⟨⟨f0d, f1d⟩, _, _⟩ := hYd.flt.cs
    obtain ⟨⟨r0d, r1d⟩, r2d, r3d⟩ := hYd.res.cs
    have HYD := Lib.hid hYd
    by_cases hx : xe = 0
    · subst hx
      have hd : ((0 : Int) != 0) = false := rfl
      clear hYd HYD f0d f1d r0d r1d r2d r3d
      go_wp2_with (go_at_call 16; (with_reducible refine (TK.out _ _ hY.out.rai).mono ?_); rintro e w4 ⟨rfl, hT⟩; have hR4 : FltAt w4 w.heap.size (.slice none 0 0) (.int .i64 0) := (hT.out.2.block _ (block_lt hY.out.res) (fun e => HPZ.out (by injection e))).trans hY.out.res; obtain ⟨⟨s0, s1⟩, s2, s3⟩ := hR4.cs; have HR4 := Lib.hid hR4; clear hR4)
      refine bodyPost_ret (blk_resT Tryz.results18 _ _ rfl (HR4.out.store _ _).load) rfl ?_
      exact ⟨rfl, hT.out.1.two hplt _ _, (Fr2.of_two hY.out.gr hT.out.2).two (Nat.le_refl _) _ _⟩
    · have hd : (xe != 0) = true := by simpa using hx
      have HX := Lib.hid hx
      clear hx hYd
      go_wp2
      go_region
      all_goals go_wp2
      all_goals refine bodyPost_ret (blk_resT Tryz.results18 _ _ rfl ((hY.out.res.store _ _).later (Below.refl _ _).drew).load) rfl ?_
      all_goals have HY2 := hY.out
      all_goals rw [HWB.out HX.out] at HY2
      all_goals exact .inl ⟨HX.out, A5, n5, c5, rfl, (HY2.fin HX.out hplt).1, HY2.new.mono (Nat.le_succ _), (HY2.fin HX.out hplt).2⟩
end
end Go.Proofs.YtajeelbeochojaaGreatDoor

/-
  Layer 16: one step of either side, told by one answer.
-/
namespace Go.Proofs.YtajeelbeochojaaGreatDoor
open Go.RowKit
set_option linter.unusedVariables false
set_option linter.unusedSimpArgs false

/-- what a step answers, and what it leaves: a block, the blocks of its error, its code; how many are taken, the image -/
structure Out16 where
  no : Int
  bl : List Int
  x : Int
  t : Nat
  L : List UInt8
def out16 (q : Nat) (l : List Int) (nx : Bool) (kind : Int) (li : List UInt8) (t : Nat) (L : List UInt8) : Out16 :=
  if l.length ≤ t then ⟨0, [], 14, t, L⟩
  else if nx = true then ⟨l.getD t 0, [], 0, t + 1, L⟩
  else if wrE11 q (l.getD t 0) kind li ≠ 0 then ⟨0, [l.getD t 0], wrE11 q (l.getD t 0) kind li, t, L⟩
  else ⟨l.getD t 0, [], 0, t + 1, wrL11 L q (l.getD t 0) kind li⟩
section
variable {q : Nat} {l : List Int} {nx : Bool} {kind : Int} {li : List UInt8} {t : Nat} {L : List UInt8}
theorem out16_none (h : l.length ≤ t) : out16 q l nx kind li t L = ⟨0, [], 14, t, L⟩ := by rw [out16, if_pos h]
theorem out16_next (h : t < l.length) : out16 q l true kind li t L = ⟨l.getD t 0, [], 0, t + 1, L⟩ := by rw [out16, if_neg (by omega), if_pos rfl]
theorem out16_bad (h : t < l.length) (hx : wrE11 q (l.getD t 0) kind li ≠ 0) : out16 q l false kind li t L = ⟨0, [l.getD t 0], wrE11 q (l.getD t 0) kind li, t, L⟩ := by rw [out16, if_neg (by omega), if_neg (by decide), if_pos hx]
theorem out16_good (h : t < l.length) (hx : wrE11 q (l.getD t 0) kind li = 0) : out16 q l false kind li t L = ⟨l.getD t 0, [], 0, t + 1, wrL11 L q (l.getD t 0) kind li⟩ := by rw [out16, if_neg (by omega), if_neg (by decide), if_neg (by simpa using hx)]
theorem out16_le (h : t ≤ l.length) : (out16 q l nx kind li t L).t ≤ l.length := by
  unfold out16
  split
  · exact h
  · split
    · show t + 1 ≤ _; omega
    · split
      · exact h
      · show t + 1 ≤ _; omega
theorem out16_length (h : L.length = q * 256) : (out16 q l nx kind li t L).L.length = q * 256 := by
  unfold out16
  split
  · exact h
  · split
    · exact h
    · split
      · exact h
      · exact wrL11_length h
theorem drop16 (h : t < l.length) : l.drop t = l.getD t 0 :: l.drop (t + 1) := by
  rw [List.drop_eq_getElem_cons h]
  simp [List.getD_eq_getElem?_getD, h]
end

theorem ErrD16.keep {w w' : World} {v : Value} {bl : List Int} {x : Int} (h : ErrD16 w v bl x) (hk : Keeps w w') : ErrD16 w' v bl x := by
  rcases h with h | ⟨nd, l, h1, h2, h3⟩
  · exact .inl h
  · exact .inr ⟨nd, l, h1, h2.same hk, h3⟩
theorem ErrD16.told {w : World} {v : Value} {bl : List Int} {x : Int} (h : ErrD16 w v bl x) (hg : ErrT w) :
    Calls Tryz.prog 14 #[v] w fun e w' => ∃ A n c, e = .returned (.agg #[.slice A n c, .int .i64 x]) ∧ Ints w' A n c bl ∧ Below w.heap.size w w' := by
  rcases h with ⟨rfl, rfl, rfl⟩ | ⟨nd, l, rfl, h2, rfl, rfl, h3⟩
  · exact (Told_nil w).mono fun e w' ⟨h1, h2⟩ => ⟨none, 0, 0, h1, Ints.nil _, h2⟩
  · exact Told_err h2 hg h3

section
variable {w : World} {base p m B g : Nat} {A : Option Addr} {n c : Nat} {l : List Int} {t q : Nat} {L : List UInt8}
theorem Next_out16 (kind : Int) (li : List UInt8) (h : AImg w base p m B g A n c l t L) :
    Calls Tryz.prog 15 #[.pointer (some ⟨p, 0, none⟩)] w fun e w' => ∃ gv, e = .returned (.tuple #[.int .i64 (out16 q l true kind li t L).no, gv]) ∧ ErrD16 w' gv (out16 q l true kind li t L).bl (out16 q l true kind li t L).x ∧ AImg w' base p m B g A n c l (out16 q l true kind li t L).t (out16 q l true kind li t L).L ∧ Fr2 w w' (some g) (some p) := by
  have hl := h.alc.ints.len
  have hle := h.alc.le
  by_cases ht : t < n
  · rw [out16_next (by omega)]
    exact (h.next ht).mono fun e w' ⟨h1, h2, h3⟩ => ⟨_, h1, ErrD16.nil _, h2, (Fr2.of_one h3 _).swap⟩
  · rw [out16_none (by omega)]
    exact (Next_none16 h.alc (by omega)).mono fun e w' ⟨h1, h2⟩ => ⟨_, h1, ErrD16.num _ _, h.later h2, Fr2.of_below h2 _ _⟩
theorem Lay_out16 (kind : Int) {Ai : Option Addr} {ni ci : Nat} {li : List UInt8} (h : AImg w base p m B g A n c l t L) (hL : L.length = q * 256) (hB : Bytes8 w Ai ni ci li) :
    Calls Tryz.prog 17 #[.pointer (some ⟨p, 0, none⟩), .int .i64 kind, .slice Ai ni ci] w fun e w' => ∃ gv, e = .returned (.tuple #[.int .i64 (out16 q l false kind li t L).no, gv]) ∧ ErrD16 w' gv (out16 q l false kind li t L).bl (out16 q l false kind li t L).x ∧ AImg w' base p m B g A n c l (out16 q l false kind li t L).t (out16 q l false kind li t L).L ∧ Fr2 w w' (some g) (some p) := by
  have hl := h.alc.ints.len
  have hle := h.alc.le
  by_cases ht : t < n
  · by_cases hx : wrE11 q (l.getD t 0) kind li = 0
    · rw [out16_good (by omega) hx]
      exact (Lay_good16 kind h hL ht hB hx).mono fun e w' ⟨h1, h2, W, h3, h4⟩ => ⟨_, h1, ErrD16.nil _, h2, Fr2.of_two h3 h4⟩
    · rw [out16_bad (by omega) hx]
      exact (Lay_bad16 kind h hL ht hB hx).mono fun e w' ⟨v, h1, h2, h3, h4⟩ => ⟨v, h1, ErrD16.at_ h2 hx, h3, Fr2.of_one h4 _⟩
  · rw [out16_none (by omega)]
    exact (Lay_none16 kind Ai ni ci h.alc (by omega)).mono fun e w' ⟨h1, h2⟩ => ⟨_, h1, ErrD16.num _ _, h.later h2, Fr2.of_below h2 _ _⟩
end

section
variable {w : World} {base p m B : Nat} {v : Value} {l : List Int} {t q : Nat} {L : List UInt8}
theorem refTake_out16 (kind : Int) (li : List UInt8) (h : RAImg w base p m B v (l.drop t) t (blks L q)) (ht1 : t ≤ 1000000) :
    Calls Tryz.prog 16 #[.pointer (some ⟨p, 0, none⟩)] w fun e w' => ∃ A n c, e = .returned (.tuple #[.int .i64 (out16 q l true kind li t L).no, .agg #[.slice A n c, .int .i64 (out16 q l true kind li t L).x]]) ∧ Ints w' A n c (out16 q l true kind li t L).bl ∧ Newer w.heap.size A ∧ RAImg w' base p m B v (l.drop (out16 q l true kind li t L).t) (out16 q l true kind li t L).t (blks (out16 q l true kind li t L).L q) ∧ Fr2 w w' v.ownBlock (some p) := by
  by_cases ht : t < l.length
  · rw [out16_next ht]
    rw [drop16 ht] at h
    exact (refTake_some16 h.ra ht1).mono fun e w' ⟨h1, h2, h3⟩ => ⟨none, 0, 0, h1, Ints.nil _, Newer.nil _, ⟨h2, h.ri.mov (h3.block m h.ri.plt (fun e => by injection e with e; have := h.mlt; have := h.ra.1; omega)) (fun k e => h3.block k (h.ri.own_of k e).2 (fun e2 => by injection e2 with e2; have := h.own k e; have := h.ra.1; omega)), h.mlt, h.own⟩, (Fr2.of_one h3 _).swap⟩
  · rw [out16_none (by omega)]
    have e := List.drop_of_length_le (show l.length ≤ t by omega)
    have h0 := h.ra
    rw [e] at h0
    exact (refTake_none16 h0).mono fun e w' ⟨h1, h2⟩ => ⟨none, 0, 0, h1, Ints.nil _, Newer.nil _, h.later h2, Fr2.of_below h2 _ _⟩
theorem refLay_out16 (kind : Int) {Ai : Option Addr} {ni ci : Nat} {li : List UInt8} (h : RAImg w base p m B v (l.drop t) t (blks L q)) (hL : L.length = q * 256) (hB : Bytes8 w Ai ni ci li) (ht1 : t ≤ 1000000) :
    Calls Tryz.prog 18 #[.pointer (some ⟨p, 0, none⟩), .int .i64 kind, .slice Ai ni ci] w fun e w' => ∃ A n c, e = .returned (.tuple #[.int .i64 (out16 q l false kind li t L).no, .agg #[.slice A n c, .int .i64 (out16 q l false kind li t L).x]]) ∧ Ints w' A n c (out16 q l false kind li t L).bl ∧ Newer w.heap.size A ∧ RAImg w' base p m B v (l.drop (out16 q l false kind li t L).t) (out16 q l false kind li t L).t (blks (out16 q l false kind li t L).L q) ∧ Fr2 w w' v.ownBlock (some p) := by
  by_cases ht : t < l.length
  · rw [drop16 ht] at h
    refine (refLay_some16 kind h hL hB ht1).mono ?_
    rintro e w' (⟨hx, A, n, c, h1, h2, hn, h3, h4⟩ | ⟨hx, h1, h2, h3⟩)
    · rw [out16_bad ht hx]
      rw [← drop16 ht] at h3
      exact ⟨A, n, c, h1, h2, hn, h3, h4⟩
    · rw [out16_good ht hx]
      exact ⟨none, 0, 0, h1, Ints.nil _, Newer.nil _, h2, h3⟩
  · rw [out16_none (by omega)]
    have e := List.drop_of_length_le (show l.length ≤ t by omega)
    have h0 := h.ra
    rw [e] at h0
    exact (refLay_none16 kind Ai ni ci h0).mono fun e w' ⟨h1, h2⟩ => ⟨none, 0, 0, h1, Ints.nil _, Newer.nil _, h.later h2, Fr2.of_below h2 _ _⟩
end
end Go.Proofs.YtajeelbeochojaaGreatDoor

/-
  The reference's Same; the document's example.
-/
namespace Go.Proofs.YtajeelbeochojaaGreatDoor
open Go.RowKit
set_option linter.unusedVariables false
set_option linter.unusedSimpArgs false

set_option maxRecDepth 100000 in
set_option maxHeartbeats 800000 in
theorem Same_same (A A2 : Option Addr) (n c c2 : Nat) (l : List Int) (w : World) (h : Ints w A n c l) (h2 : Ints w A2 n c2 l) :
    Calls Tryz.prog 21 #[.slice A n c, .slice A2 n c2] w fun e w' => e = .returned (.bool true) ∧ Below w.heap.size w w' := by
  have hn := h.le
  by_cases hp : 0 < n
  · obtain ⟨b, off, rfl, hb, hcell⟩ := h.row.lit (by rw [i64s_length, h.len]; omega)
    obtain ⟨b2, off2, rfl, hb2, hcell2⟩ := h2.row.lit (by rw [i64s_length, h2.len]; omega)
    have HL := Lib.hid h.len
    have HC := Lib.hid hcell
    have HC2 := Lib.hid hcell2
    clear h h2 hcell hcell2
    go_enter Tryz.func21, Tryz.ntmps21
    go_wp2
    go_loopw [5] (fun i wr => ∃ k : Nat, k ≤ n ∧ i = .int .i64 k ∧ Below w.heap.size w wr) (fun i _ => n - (intOf i).toNat)
    case atStart => exact ⟨0, by omega, rfl, Below.refl _ _⟩
    case round =>
      obtain ⟨k, hk, rfl, hbel⟩ := hrel
      by_cases hlt : k < n
      · have hkl : k < l.length := by have := HL.out; omega
        have hc0 : wr.cell? ⟨b, off + k, none⟩ = some (.int .i64 l[k]) := (hbel.cell (p := ⟨b, off + k, none⟩) hb).trans (HC.out _ _ (i64s_at l k hkl))
        have hc2 : wr.cell? ⟨b2, off2 + k, none⟩ = some (.int .i64 l[k]) := (hbel.cell (p := ⟨b2, off2 + k, none⟩) hb2).trans (HC2.out _ _ (i64s_at l k hkl))
        generalize l[k] = a at *
        go_wp2
        go_quiet (fail)
        go_wp2
        go_roundw
        case rel => exact ⟨k + 1, by omega, by go_num, below_drewN hbel _⟩
        case measure => simp [intOf]; omega
      · go_wp2
        go_ret
        exact ⟨rfl, hbel⟩
  · obtain rfl : n = 0 := by omega
    clear h h2
    go_enter Tryz.func21, Tryz.ntmps21
    go_wp2
    refine wp_loop_rounds 1 ?_
    rw [rounds_succ]
    go_wp2
    go_ret
    exact ⟨rfl, Below.refl _ _⟩

end Go.Proofs.YtajeelbeochojaaGreatDoor

/-
  Layer 16: both sides in one world: made, stepped, asked.
-/
namespace Go.Proofs.YtajeelbeochojaaGreatDoor
open Go.RowKit
set_option linter.unusedVariables false
set_option linter.unusedSimpArgs false

/-- blocks of other kinds than what either side writes stand as they stood -/
def Kp16 (W W' : World) : Prop := ∀ (k : Nat) (c : Array Value) (T : TypeId), W.heap[k]? = some (Obj.cells c T (0, 0)) → T ≠ 66 → T ≠ 5 → T ≠ 9 → T ≠ 54 → W'.heap[k]? = W.heap[k]?
theorem Kp16.keeps {W W' : World} (h : Kp16 W W') : Keeps W W' := fun p c e => (h p c _ e (by decide) (by decide) (by decide) (by decide)).trans e
theorem Kp16.flt {W W' : World} {b : Nat} {x y : Value} (h : Kp16 W W') (hf : FltAt W b x y) : FltAt W' b x y := (h b _ _ hf (by decide) (by decide) (by decide) (by decide)).trans hf
theorem Kp16.trans {a b c : World} (h : Kp16 a b) (k : Kp16 b c) : Kp16 a c := fun i x T e h1 h2 h3 h4 => (k i x T ((h i x T e h1 h2 h3 h4).trans e) h1 h2 h3 h4).trans (h i x T e h1 h2 h3 h4)
theorem Kp16.of_below {W W' : World} (h : Below W.heap.size W W') : Kp16 W W' := fun k c T e _ _ _ _ => h.block k (block_lt e)
theorem Fr2.kp {W W' : World} {r1 r2 : Option Nat} (h : Fr2 W W' r1 r2) (h1 : ∀ k, r1 = some k → ∃ c T, W.heap[k]? = some (Obj.cells c T (0, 0)) ∧ (T = 66 ∨ T = 5 ∨ T = 9 ∨ T = 54))
    (h2 : ∀ k, r2 = some k → ∃ c T, W.heap[k]? = some (Obj.cells c T (0, 0)) ∧ (T = 66 ∨ T = 5 ∨ T = 9 ∨ T = 54)) : Kp16 W W' := fun k c T e a1 a2 a3 a4 => by
  have no : ∀ c' T', W.heap[k]? = some (Obj.cells c' T' (0, 0)) → (T' = 66 ∨ T' = 5 ∨ T' = 9 ∨ T' = 54) → False := fun c' T' e' ht => by
    rw [e] at e'
    injection e' with e'
    injection e' with _ e2 _
    subst e2
    rcases ht with ht | ht | ht | ht
    · exact a1 ht
    · exact a2 ht
    · exact a3 ht
    · exact a4 ht
  refine h.block k (block_lt e) (fun hr => ?_) (fun hr => ?_)
  · obtain ⟨c', T', e', ht⟩ := h1 k hr.symm
    exact no c' T' e' ht
  · obtain ⟨c', T', e', ht⟩ := h2 k hr.symm
    exact no c' T' e' ht

theorem RAlc.fr2 {w w' : World} {base p m : Nat} {fr : List Int} {u : Nat} {r1 r2 : Option Nat} (h : RAlc w base p m fr u) (hk : Fr2 w w' r1 r2) (h1 : ∀ k, r1 = some k → k < base) (h2 : ∀ k, r2 = some k → k < base) : RAlc w' base p m fr u := by
  have hp := h.plt
  obtain ⟨h0, A, c, g1, g2, g3⟩ := h
  refine ⟨h0, A, c, (hk.block p hp (fun e => by have := h1 p e.symm; omega) (fun e => by have := h2 p e.symm; omega)).trans g1, ⟨g2.len, g2.cap, g2.most, fun k v e => ?_⟩, g3⟩
  obtain ⟨ad, ea, hc⟩ := g2.row k v e
  refine ⟨ad, ea, ?_⟩
  have hbk : (ad.add k).block = ad.block := addr_add_block ad k
  have := (g3 ad ea).1
  exact (World.cell?_of_block (w := w) (hk.block _ (cell_lt hc) (fun e => by have := h1 _ e.symm; omega) (fun e => by have := h2 _ e.symm; omega))).trans hc
theorem Alc.fr2 {w w' : World} {base p m : Nat} {A : Option Addr} {n c : Nat} {l : List Int} {t : Nat} {r1 r2 : Option Nat} (h : Alc w base p m A n c l t) (hk : Fr2 w w' r1 r2) (h1 : ∀ k, r1 = some k → k < base ∨ p < k) (h2 : ∀ k, r2 = some k → k < base ∨ p < k) : Alc w' base p m A n c l t := by
  have hp := h.plt
  have hb := h.bp
  refine ⟨h.bp, (hk.block p hp (fun e => by have := h1 p e.symm; omega) (fun e => by have := h2 p e.symm; omega)).trans h.hp, ⟨h.ints.len, h.ints.cap, h.ints.most, fun k v e => ?_⟩, h.le, h.low⟩
  obtain ⟨ad, ea, hc⟩ := h.ints.row k v e
  refine ⟨ad, ea, ?_⟩
  have hbk : (ad.add k).block = ad.block := addr_add_block ad k
  have := h.low ad ea
  exact (World.cell?_of_block (w := w) (hk.block _ (cell_lt hc) (fun e => by have := h1 _ e.symm; omega) (fun e => by have := h2 _ e.symm; omega))).trans hc

/-- both sides: the program's with t taken of l and the image L, the document's with t2 and L2 -/
structure Plb16 (w W : World) (q : Nat) (l : List Int) (p m p2 m2 t : Nat) (L : List UInt8) (t2 : Nat) (L2 : List UInt8) (lo base g : Nat) (A : Option Addr) (n c base2 : Nat) (v : Value) : Prop where
  bel : Below w.heap.size w W
  ai : AImg W base p m w.heap.size g A n c l t L
  ri : RAImg W base2 p2 m2 w.heap.size v (l.drop t2) t2 (blks L2 q)
  len : L.length = q * 256
  len2 : L2.length = q * 256
  hm : m < m2
  hg : g < m2
  ht : m2 < base
  own : ∀ k, v.ownBlock = some k → m2 < k ∧ k < base
  hp : p < base2
  lo : lo ≤ base
  few : l.length ≤ 1000000
  te : t2 ≤ 1000000
def Pl16 (w W : World) (q : Nat) (l : List Int) (p m p2 m2 t : Nat) (L : List UInt8) (t2 : Nat) (L2 : List UInt8) (lo : Nat) : Prop := ∃ base g A n c base2 v, Plb16 w W q l p m p2 m2 t L t2 L2 lo base g A n c base2 v
section
variable {w W W' : World} {q : Nat} {l : List Int} {p m p2 m2 t : Nat} {L : List UInt8} {t2 : Nat} {L2 : List UInt8} {lo : Nat}
theorem Pl16.later (h : Pl16 w W q l p m p2 m2 t L t2 L2 lo) (hb : Below W.heap.size W W') : Pl16 w W' q l p m p2 m2 t L t2 L2 lo := by
  obtain ⟨base, g, A, n, c, base2, v, h⟩ := h
  exact ⟨base, g, A, n, c, base2, v, ⟨h.bel.trans (hb.mono h.bel.size), h.ai.later hb, h.ri.later hb, h.len, h.len2, h.hm, h.hg, h.ht, h.own, h.hp, h.lo, h.few, h.te⟩⟩
theorem Pl16.bel (h : Pl16 w W q l p m p2 m2 t L t2 L2 lo) : Below w.heap.size w W := by
  obtain ⟨base, g, A, n, c, base2, v, h⟩ := h
  exact h.bel
theorem Pl16.le (h : Pl16 w W q l p m p2 m2 t L t2 L2 lo) : t ≤ l.length := by
  obtain ⟨base, g, A, n, c, base2, v, h⟩ := h
  rw [h.ai.alc.ints.len]
  exact h.ai.alc.le
/-- the program has stepped -/
theorem Plb16.prog {base g : Nat} {A : Option Addr} {n c base2 : Nat} {v : Value} {t' : Nat} {L' : List UInt8} (h : Plb16 w W q l p m p2 m2 t L t2 L2 lo base g A n c base2 v) (ha : AImg W' base p m w.heap.size g A n c l t' L') (hL : L'.length = q * 256) (hf : Fr2 W W' (some g) (some p)) :
    Plb16 w W' q l p m p2 m2 t' L' t2 L2 lo base g A n c base2 v ∧ Kp16 W W' := by
  have hbp := h.ai.alc.bp
  have hg1 := h.hg
  have hp1 := h.hp
  have ht1 := h.ht
  have hwg := h.ai.img.bg
  have hwp := h.ai.img.bp
  have hm1 := h.hm
  have hmp := h.ri.ri.plt
  refine ⟨⟨?_, ha, ⟨h.ri.ra.fr2 hf (fun k e => by injection e; omega) (fun k e => by injection e; omega), h.ri.ri.mov (hf.block _ hmp (fun e => by injection e; omega) (fun e => by injection e; omega)) (fun k e => ?_), h.ri.mlt, h.ri.own⟩, hL, h.len2, h.hm, h.hg, h.ht, h.own, h.hp, h.lo, h.few, h.te⟩, ?_⟩
  · exact h.bel.trans ⟨hf.os, hf.tape, hf.output, hf.size, fun k hk => hf.block k (by have := h.bel.size; omega) (fun e => by injection e; omega) (fun e => by injection e; omega)⟩
  · have := h.own k e
    exact hf.block k (h.ri.ri.own_of k e).2 (fun e => by injection e; omega) (fun e => by injection e; omega)
  · exact hf.kp (fun k e => by injection e with e; subst e; exact ⟨_, _, h.ai.img.hg, by simp⟩) (fun k e => by injection e with e; subst e; exact ⟨_, _, h.ai.alc.hp, by simp⟩)
/-- the document has stepped -/
theorem Plb16.ref {base g : Nat} {A : Option Addr} {n c base2 : Nat} {v : Value} {t' : Nat} {L' : List UInt8} (h : Plb16 w W q l p m p2 m2 t L t2 L2 lo base g A n c base2 v) (ha : RAImg W' base2 p2 m2 w.heap.size v (l.drop t') t' (blks L' q)) (hL : L'.length = q * 256) (ht' : t' ≤ 1000000) (hf : Fr2 W W' v.ownBlock (some p2)) :
    Plb16 w W' q l p m p2 m2 t L t' L' lo base g A n c base2 v ∧ Kp16 W W' := by
  have hbp := h.ai.alc.bp
  have hg1 := h.hg
  have hp1 := h.hp
  have ht1 := h.ht
  have hwg := h.ai.img.bg
  have hwp := h.ai.img.bp
  have hm1 := h.hm
  have hb2 := h.ri.ra.1
  refine ⟨⟨?_, ⟨h.ai.alc.fr2 hf (fun k e => .inl (h.own k e).2) (fun k e => by injection e; omega), ?_, h.ai.mlt, h.ai.glt⟩, ha, h.len, hL, h.hm, h.hg, h.ht, h.own, h.hp, h.lo, h.few, ht'⟩, ?_⟩
  · exact h.bel.trans ⟨hf.os, hf.tape, hf.output, hf.size, fun k hk => hf.block k (by have := h.bel.size; omega) (fun e => by have := h.own k e.symm; omega) (fun e => by injection e; omega)⟩
  · refine ⟨h.ai.img.bp, h.ai.img.bg, h.ai.img.ne, (hf.block m h.ai.img.plt (fun e => by have := h.own m e.symm; omega) (fun e => by injection e; omega)).trans h.ai.img.hp, (hf.block g h.ai.img.glt (fun e => by have := h.own g e.symm; omega) (fun e => by injection e; omega)).trans h.ai.img.hg, h.ai.img.most⟩
  · refine hf.kp (fun k e => ?_) (fun k e => by injection e with e; subst e; obtain ⟨_, A2, c2, g1, _⟩ := h.ri.ra; exact ⟨_, _, g1, by simp⟩)
    rcases h.ri.ri.own.2 with ⟨hv, _⟩ | ⟨g2, cap, cur, hv, _, hh, _⟩
    · rw [hv] at e; cases e
    · rw [hv] at e
      have e : some g2 = some k := e
      injection e with e
      subst e
      exact ⟨_, _, hh, by simp⟩

theorem Pl16.next (kind : Int) (li : List UInt8) (h : Pl16 w W q l p m p2 m2 t L t2 L2 lo) :
    Calls Tryz.prog 15 #[.pointer (some ⟨p, 0, none⟩)] W fun e w' => ∃ gv, e = .returned (.tuple #[.int .i64 (out16 q l true kind li t L).no, gv]) ∧ ErrD16 w' gv (out16 q l true kind li t L).bl (out16 q l true kind li t L).x ∧ Pl16 w w' q l p m p2 m2 (out16 q l true kind li t L).t (out16 q l true kind li t L).L t2 L2 lo ∧ Kp16 W w' := by
  obtain ⟨base, g, A, n, c, base2, v, h⟩ := h
  refine (Next_out16 (q := q) kind li h.ai).mono ?_
  rintro e w' ⟨gv, h1, h2, h3, h4⟩
  obtain ⟨h5, h6⟩ := h.prog h3 (out16_length h.len) h4
  exact ⟨gv, h1, h2, ⟨base, g, A, n, c, base2, v, h5⟩, h6⟩
theorem Pl16.lay (kind : Int) {Ai : Option Addr} {ni ci : Nat} {li : List UInt8} (h : Pl16 w W q l p m p2 m2 t L t2 L2 lo) (hB : Bytes8 w Ai ni ci li) :
    Calls Tryz.prog 17 #[.pointer (some ⟨p, 0, none⟩), .int .i64 kind, .slice Ai ni ci] W fun e w' => ∃ gv, e = .returned (.tuple #[.int .i64 (out16 q l false kind li t L).no, gv]) ∧ ErrD16 w' gv (out16 q l false kind li t L).bl (out16 q l false kind li t L).x ∧ Pl16 w w' q l p m p2 m2 (out16 q l false kind li t L).t (out16 q l false kind li t L).L t2 L2 lo ∧ Kp16 W w' := by
  obtain ⟨base, g, A, n, c, base2, v, h⟩ := h
  refine (Lay_out16 kind h.ai h.len (hB.below h.bel)).mono ?_
  rintro e w' ⟨gv, h1, h2, h3, h4⟩
  obtain ⟨h5, h6⟩ := h.prog h3 (out16_length h.len) h4
  exact ⟨gv, h1, h2, ⟨base, g, A, n, c, base2, v, h5⟩, h6⟩
theorem out16_few {nx : Bool} {kind : Int} {li : List UInt8} (h : t ≤ l.length) (hf : l.length ≤ 1000000) : (out16 q l nx kind li t L).t ≤ 1000000 := Nat.le_trans (out16_le h) hf
theorem Pl16.take_ (kind : Int) (li : List UInt8) (h : Pl16 w W q l p m p2 m2 t2 L2 t L lo) (ht : t ≤ l.length) :
    Calls Tryz.prog 16 #[.pointer (some ⟨p2, 0, none⟩)] W fun e w' => ∃ A n c, e = .returned (.tuple #[.int .i64 (out16 q l true kind li t L).no, .agg #[.slice A n c, .int .i64 (out16 q l true kind li t L).x]]) ∧ Ints w' A n c (out16 q l true kind li t L).bl ∧ Newer W.heap.size A ∧ Pl16 w w' q l p m p2 m2 t2 L2 (out16 q l true kind li t L).t (out16 q l true kind li t L).L lo ∧ Kp16 W w' := by
  obtain ⟨base, g, A, n, c, base2, v, h⟩ := h
  refine (refTake_out16 (q := q) kind li h.ri h.te).mono ?_
  rintro e w' ⟨A3, n3, c3, h1, h2, hn, h3, h4⟩
  obtain ⟨h5, h6⟩ := h.ref h3 (out16_length h.len2) (out16_few ht h.few) h4
  exact ⟨A3, n3, c3, h1, h2, hn, ⟨base, g, A, n, c, base2, v, h5⟩, h6⟩
theorem Pl16.rlay (kind : Int) {Ai : Option Addr} {ni ci : Nat} {li : List UInt8} (h : Pl16 w W q l p m p2 m2 t2 L2 t L lo) (ht : t ≤ l.length) (hB : Bytes8 w Ai ni ci li) :
    Calls Tryz.prog 18 #[.pointer (some ⟨p2, 0, none⟩), .int .i64 kind, .slice Ai ni ci] W fun e w' => ∃ A n c, e = .returned (.tuple #[.int .i64 (out16 q l false kind li t L).no, .agg #[.slice A n c, .int .i64 (out16 q l false kind li t L).x]]) ∧ Ints w' A n c (out16 q l false kind li t L).bl ∧ Newer W.heap.size A ∧ Pl16 w w' q l p m p2 m2 t2 L2 (out16 q l false kind li t L).t (out16 q l false kind li t L).L lo ∧ Kp16 W w' := by
  obtain ⟨base, g, A, n, c, base2, v, h⟩ := h
  refine (refLay_out16 kind h.ri h.len2 (hB.below h.bel) h.te).mono ?_
  rintro e w' ⟨A3, n3, c3, h1, h2, hn, h3, h4⟩
  obtain ⟨h5, h6⟩ := h.ref h3 (out16_length h.len2) (out16_few ht h.few) h4
  exact ⟨A3, n3, c3, h1, h2, hn, ⟨base, g, A, n, c, base2, v, h5⟩, h6⟩
/-! what is asked -/
theorem Pl16.left (h : Pl16 w W q l p m p2 m2 t L t2 L2 lo) : Calls Tryz.prog 19 #[.pointer (some ⟨p, 0, none⟩)] W fun e w' => e = .returned (.int .i64 ((l.drop t).length : Int)) ∧ Below W.heap.size W w' := by
  obtain ⟨base, g, A, n, c, base2, v, h⟩ := h
  have e : (l.drop t).length = n - t := by rw [List.length_drop, h.ai.alc.ints.len]
  rw [e]
  exact Left_yes16 h.ai.alc
theorem Pl16.used (h : Pl16 w W q l p m p2 m2 t L t2 L2 lo) : Calls Tryz.prog 20 #[.pointer (some ⟨p, 0, none⟩)] W fun e w' => e = .returned (.int .i64 (t : Int)) ∧ W = w' := by
  obtain ⟨base, g, A, n, c, base2, v, h⟩ := h
  exact Used_yes16 h.ai.alc
theorem Pl16.image (h : Pl16 w W q l p m p2 m2 t L t2 L2 lo) : Calls Tryz.prog 24 #[.pointer (some ⟨p, 0, none⟩)] W fun e w' => e = .returned (.pointer (some ⟨m, 0, none⟩)) ∧ W = w' := by
  obtain ⟨base, g, A, n, c, base2, v, h⟩ := h
  exact Image_yes16 h.ai.alc
theorem Pl16.ahead (j : Nat) (h : Pl16 w W q l p m p2 m2 t L t2 L2 lo) : Calls Tryz.prog 22 #[.pointer (some ⟨p, 0, none⟩), .int .i64 (j : Int)] W fun e w' => ∃ A c, e = .returned (.slice A ((l.drop t).take j).length c) ∧ Ints w' A ((l.drop t).take j).length c ((l.drop t).take j) ∧ Below W.heap.size W w' := by
  obtain ⟨base, g, A, n, c, base2, v, h⟩ := h
  refine (Ahead_yes16 (j : Int) h.ai.alc (by rw [← h.ai.alc.ints.len]; exact h.few)).mono ?_
  rintro e w' ⟨A2, n2, c2, h1, h2, h3⟩
  rw [Int.toNat_natCast] at h2
  obtain rfl := h2.len
  exact ⟨A2, c2, h1, h2, h3⟩
theorem Pl16.rahead (j : Nat) (hj : j ≤ 1000000) (h : Pl16 w W q l p m p2 m2 t2 L2 t L lo) : Calls Tryz.prog 23 #[.pointer (some ⟨p2, 0, none⟩), .int .i64 (j : Int)] W fun e w' => ∃ A c, e = .returned (.slice A ((l.drop t).take j).length c) ∧ Ints w' A ((l.drop t).take j).length c ((l.drop t).take j) ∧ Below W.heap.size W w' := by
  obtain ⟨base, g, A, n, c, base2, v, h⟩ := h
  refine (refAhead16 j h.ri.ra hj (by rw [List.length_drop]; have := h.few; omega)).mono ?_
  rintro e w' ⟨A2, n2, c2, h1, h2, h3⟩
  obtain rfl := h2.len
  exact ⟨A2, c2, h1, h2, h3⟩
theorem Pl16.cells (h : Pl16 w W q l p m p2 m2 t2 L2 t L lo) : ∃ A c, ∀ W', Below W.heap.size W W' → W'.cell? ⟨p2, 1, none⟩ = some (.slice A (l.drop t).length c) ∧ W'.cell? ⟨p2, 2, none⟩ = some (.int .i64 (t : Int)) := by
  obtain ⟨base, g, A, n, c, base2, v, h⟩ := h
  have hp := h.ri.ra.plt
  obtain ⟨_, A2, c2, g1, g2, _⟩ := h.ri.ra
  refine ⟨A2, c2, fun W' hb => ?_⟩
  obtain ⟨k0, k1, k2, _⟩ := RAlc.cells ((hb.block p2 hp).trans g1)
  exact ⟨k1, k2⟩
theorem Pl16.bytes (h : Pl16 w W q l p m p2 m2 t L t2 L2 lo) : Calls Tryz.prog 25 #[.pointer (some ⟨m, 0, none⟩)] W fun e w' => ∃ A, e = .returned (.slice A L.length L.length) ∧ Bytes8 w' A L.length L.length L ∧ Below W.heap.size W w' := by
  obtain ⟨base, g, A, n, c, base2, v, h⟩ := h
  exact Bytes_img W h.ai.img
theorem Pl16.rbytes (h : Pl16 w W q l p m p2 m2 t2 L2 t L lo) : Calls Tryz.prog 26 #[.pointer (some ⟨m2, 0, none⟩)] W fun e w' => ∃ A c, e = .returned (.slice A L.length c) ∧ Bytes8 w' A L.length c L ∧ Below W.heap.size W w' := by
  obtain ⟨base, g, A, n, c, base2, v, h⟩ := h
  have hm := h.ai.img.most
  rw [h.len] at hm
  have := refBytes_any W h.ri.ri (by rw [blks_flatten _ _ h.len2, h.len2]; exact hm)
  rw [blks_flatten _ _ h.len2] at this
  exact this
end
end Go.Proofs.YtajeelbeochojaaGreatDoor

/-
  Layer 16: both allocators made.
-/
namespace Go.Proofs.YtajeelbeochojaaGreatDoor
open Go.RowKit
set_option linter.unusedVariables false
set_option linter.unusedSimpArgs false

/-- both images; what is theirs lies below top -/
structure Im16 (w W : World) (top m g m2 : Nat) (v : Value) (q : Nat) (L : List UInt8) : Prop where
  bel : Below w.heap.size w W
  img : Img W w.heap.size m g L
  ref : RImg W w.heap.size m2 v (blks L q)
  hm : m < m2
  hg : g < m2
  ht : m2 < top
  own : ∀ k, v.ownBlock = some k → m2 < k ∧ k < top
  tp : top ≤ W.heap.size
  len : L.length = q * 256
section
variable {w W W' : World} {top m g m2 : Nat} {v : Value} {q : Nat} {L : List UInt8}
theorem Im16.later (h : Im16 w W top m g m2 v q L) (hb : Below W.heap.size W W') : Im16 w W' top m g m2 v q L := ⟨h.bel.trans (hb.mono h.bel.size), h.img.later hb, h.ref.later hb, h.hm, h.hg, h.ht, h.own, Nat.le_trans h.tp hb.size, h.len⟩
theorem Im16.two {b : Nat} (h : Im16 w W top m g m2 v q L) (hb : top ≤ b) (x y : Value) : Im16 w ((W.setCell ⟨b, 0, none⟩ x).setCell ⟨b, 1, none⟩ y) top m g m2 v q L := by
  have hk : ∀ k, k ≠ b → ((W.setCell ⟨b, 0, none⟩ x).setCell ⟨b, 1, none⟩ y).heap[k]? = W.heap[k]? := fun k hk => by
    rw [heap_setCell_other _ _ k _ hk, heap_setCell_other _ _ k _ hk]
  have h1 := h.hm
  have h2 := h.hg
  have h3 := h.ht
  have h4 := h.ref.bp
  refine ⟨below_store2 h.bel (by omega) _ _, ⟨h.img.bp, h.img.bg, h.img.ne, (hk m (by omega)).trans h.img.hp, (hk g (by omega)).trans h.img.hg, h.img.most⟩, h.ref.mov (hk m2 (by omega)) (fun k e => hk k (by have := h.own k e; omega)), h.hm, h.hg, h.ht, h.own, by simpa [World.setCell] using h.tp, h.len⟩
end

/-- the program's allocator made, or its error -/
def Mk16 (w W : World) (top m g m2 : Nat) (v : Value) (q : Nat) (L : List UInt8) (lo : Nat) (x : Int) (li : List Int) (va ve : Value) : Prop :=
  Im16 w W top m g m2 v q L ∧ ((x ≠ 0 ∧ va = .pointer none ∧ ve = .iface 60 (.int .i64 x)) ∨
    (x = 0 ∧ ve = .nilIface ∧ ∃ base p A n c, va = .pointer (some ⟨p, 0, none⟩) ∧ Alc W base p m A n c li 0 ∧ lo ≤ base ∧ top ≤ base))
/-- both made, or both errors -/
def Ns16 (w W : World) (top m g m2 : Nat) (v : Value) (q : Nat) (L : List UInt8) (lo : Nat) (x : Int) (li : List Int) (va ve va2 : Value) : Prop :=
  Im16 w W top m g m2 v q L ∧ ((x ≠ 0 ∧ va = .pointer none ∧ ve = .iface 60 (.int .i64 x) ∧ va2 = .pointer none) ∨
    (x = 0 ∧ ve = .nilIface ∧ ∃ p p2, va = .pointer (some ⟨p, 0, none⟩) ∧ va2 = .pointer (some ⟨p2, 0, none⟩) ∧ Pl16 w W q li p m p2 m2 0 L 0 L lo))
section
variable {w W W' : World} {top m g m2 : Nat} {v : Value} {q : Nat} {L : List UInt8} {lo : Nat} {x : Int} {li : List Int} {va ve va2 : Value}
theorem Ns16.later (h : Ns16 w W top m g m2 v q L lo x li va ve va2) (hb : Below W.heap.size W W') : Ns16 w W' top m g m2 v q L lo x li va ve va2 := by
  refine ⟨h.1.later hb, ?_⟩
  rcases h.2 with h2 | ⟨h2, h3, p, p2, h4, h5, h6⟩
  · exact .inl h2
  · exact .inr ⟨h2, h3, p, p2, h4, h5, h6.later hb⟩
theorem Ns16.two {b : Nat} (h : Ns16 w W top m g m2 v q L lo x li va ve va2) (hb : top ≤ b) (hlo : b < lo) (y z : Value) : Ns16 w ((W.setCell ⟨b, 0, none⟩ y).setCell ⟨b, 1, none⟩ z) top m g m2 v q L lo x li va ve va2 := by
  refine ⟨h.1.two hb _ _, ?_⟩
  rcases h.2 with h2 | ⟨h2, h3, p, p2, h4, h5, base, g', A, n, c, base2, v', h6⟩
  · exact .inl h2
  · refine .inr ⟨h2, h3, p, p2, h4, h5, base, g', A, n, c, base2, v', ?_⟩
    have hv : v' = v := by
      have e1 := h.1.ref.hp
      rw [h6.ri.ri.hp] at e1
      injection e1 with e1
      injection e1 with e1 _ _
      simpa using e1
    subst hv
    have hk : ∀ k, k ≠ b → ((W.setCell ⟨b, 0, none⟩ y).setCell ⟨b, 1, none⟩ z).heap[k]? = W.heap[k]? := fun k hk => by
      rw [heap_setCell_other _ _ k _ hk, heap_setCell_other _ _ k _ hk]
    have hf : Fr2 W ((W.setCell ⟨b, 0, none⟩ y).setCell ⟨b, 1, none⟩ z) (some b) none := ⟨rfl, rfl, rfl, by simp [World.setCell], fun k _ h1 _ => hk k (fun e => h1 (by rw [e]))⟩
    have i1 := h.1.hm
    have i3 := h.1.ht
    have j1 := h6.hg
    have j2 := h6.lo
    have j3 := h6.hp
    have j4 := h6.ai.alc.bp
    have j5 := h6.hm
    have j6 := h.1.ref.bp
    refine ⟨below_store2 h6.bel (by omega) _ _, ⟨h6.ai.alc.fr2 hf (fun k e => by injection e; omega) (fun k e => by cases e), ⟨h6.ai.img.bp, h6.ai.img.bg, h6.ai.img.ne, (hk m (by omega)).trans h6.ai.img.hp, (hk g' (by omega)).trans h6.ai.img.hg, h6.ai.img.most⟩, h6.ai.mlt, h6.ai.glt⟩,
      ⟨h6.ri.ra.fr2 hf (fun k e => by injection e; omega) (fun k e => by cases e), h6.ri.ri.mov (hk m2 (by omega)) (fun k e => hk k (by have := h.1.own k e; omega)), h6.ri.mlt, h6.ri.own⟩, h6.len, h6.len2, h6.hm, h6.hg, h6.ht, h6.own, h6.hp, h6.lo, h6.few, h6.te⟩

/-- the document's allocator made behind the program's -/
theorem Ns16.made {p2 : Nat} (h : Mk16 w W top m g m2 v q L lo 0 li va ve) (hr : RAlc W' W.heap.size p2 m2 li 0) (hb : Below W.heap.size W W') (hf : li.length ≤ 1000000) : Ns16 w W' top m g m2 v q L lo 0 li va ve (.pointer (some ⟨p2, 0, none⟩)) := by
  refine ⟨h.1.later hb, ?_⟩
  rcases h.2 with ⟨h2, _⟩ | ⟨_, h3, base, p, A, n, c, h4, h5, h6, h7⟩
  · exact absurd rfl h2
  · have hp := h5.plt
    have i1 := h.1.hm
    have i2 := h.1.hg
    have i3 := h.1.ht
    have i4 := h.1.tp
    refine .inr ⟨rfl, h3, p, p2, h4, rfl, base, g, A, n, c, W.heap.size, v, ?_⟩
    have hi := h.1.later hb
    exact ⟨hi.bel, ⟨h5.later hb, hi.img, by omega, by omega⟩, ⟨by simpa using hr, hi.ref, by omega, fun k e => ⟨(h.1.own k e).1, by have := h.1.own k e; omega⟩⟩, h.1.len, h.1.len, h.1.hm, h.1.hg, by omega, fun k e => ⟨(h.1.own k e).1, by have := h.1.own k e; omega⟩, hp, h6, hf, by omega⟩
end

/-! ### what New and From answer -/
def newX16 (q : Nat) (f : Int) : Int := if f < 1 ∨ (q : Int) < f then 1 else 0
def newL16 (q : Nat) (f : Int) : List Int := seq16 f.toNat q
open Classical in
noncomputable def fromX16 (q : Nat) (l : List Int) : Int := if l.any (outR16 q) = true then 1 else if Rises16 l then 0 else 8
section
variable {w W : World} {top m g m2 : Nat} {v : Value} {q : Nat} {L : List UInt8}
theorem Im16.q_le (h : Im16 w W top m g m2 v q L) : q ≤ 14400 := by have := h.img.most; have := h.len; omega
theorem Im16.new_ (f : Int) (h : Im16 w W top m g m2 v q L) : Calls Tryz.prog 9 #[.pointer (some ⟨m, 0, none⟩), .int .i64 f] W fun e w' => ∃ va ve, e = .returned (.tuple #[va, ve]) ∧ Mk16 w w' top m g m2 v q L top (newX16 q f) (newL16 q f) va ve ∧ Below W.heap.size W w' := by
  by_cases hf : f < 1 ∨ (q : Int) < f
  · rw [newX16, if_pos hf]
    refine (New_bad16 f h.img h.len hf).mono ?_
    rintro e w' ⟨h1, rfl⟩
    exact ⟨_, _, h1, ⟨h, .inl ⟨by decide, rfl, rfl⟩⟩, Below.refl _ _⟩
  · obtain ⟨j, rfl⟩ := Int.eq_ofNat_of_zero_le (show 0 ≤ f by omega)
    rw [newX16, if_neg hf, newL16, Int.toNat_natCast]
    refine (New_good16 j h.img h.len (by omega) (by omega)).mono ?_
    rintro e w' ⟨p, A2, c2, h1, h2, h3⟩
    exact ⟨_, _, h1, ⟨h.later h3, .inr ⟨rfl, rfl, _, p, A2, _, c2, rfl, h2, h.tp, h.tp⟩⟩, h3⟩
theorem Mk16.rnew {va ve : Value} {lo : Nat} (f : Int) (h : Mk16 w W top m g m2 v q L lo (newX16 q f) (newL16 q f) va ve) : Calls Tryz.prog 10 #[.pointer (some ⟨m2, 0, none⟩), .int .i64 f] W fun e w' => ∃ va2, e = .returned (.tuple #[va2, .agg #[.slice none 0 0, .int .i64 (newX16 q f)]]) ∧ Ns16 w w' top m g m2 v q L lo (newX16 q f) (newL16 q f) va ve va2 ∧ Below W.heap.size W w' := by
  by_cases hf : f < 1 ∨ (q : Int) < f
  · have hx : newX16 q f = 1 := by rw [newX16, if_pos hf]
    rw [hx] at h ⊢
    refine (refNew_bad16 f h.1.ref (blks_length _ _) h.1.q_le hf).mono ?_
    rintro e w' ⟨h1, h2⟩
    refine ⟨_, h1, ⟨h.1.later h2, ?_⟩, h2⟩
    rcases h.2 with ⟨h2, h3, h4⟩ | ⟨h2, _⟩
    · exact .inl ⟨h2, h3, h4, rfl⟩
    · exact absurd h2 (by decide)
  · have hx : newX16 q f = 0 := by rw [newX16, if_neg hf]
    rw [hx] at h ⊢
    obtain ⟨j, rfl⟩ := Int.eq_ofNat_of_zero_le (show 0 ≤ f by omega)
    have hq := h.1.q_le
    refine (refNew_good16 j h.1.ref (blks_length _ _) hq (by omega) (by omega)).mono ?_
    rintro e w' ⟨p, h1, h2, h3⟩
    exact ⟨_, h1, Ns16.made h (by rw [newL16, Int.toNat_natCast]; exact h2) h3 (by rw [newL16, seq16_length]; omega), h3⟩
theorem Im16.from_ {A : Option Addr} {n c : Nat} {l : List Int} (h : Im16 w W top m g m2 v q L) (hl : Ints W A n c l) (hn : n ≤ 100) : Calls Tryz.prog 11 #[.pointer (some ⟨m, 0, none⟩), .slice A n c] W fun e w' => ∃ va ve, e = .returned (.tuple #[va, ve]) ∧ Mk16 w w' top m g m2 v q L W.heap.size (fromX16 q l) l va ve ∧ Below W.heap.size W w' := by
  by_cases ho : l.any (outR16 q) = true
  · rw [fromX16, if_pos ho]
    refine (From_bad16 h.img h.len hl ho).mono ?_
    rintro e w' ⟨h1, h2⟩
    exact ⟨_, _, h1, ⟨h.later h2, .inl ⟨by decide, rfl, rfl⟩⟩, h2⟩
  · have ho' : l.any (outR16 q) = false := by simpa using ho
    by_cases hr : Rises16 l
    · rw [fromX16, if_neg ho, if_pos hr]
      refine (From_good16 h.img h.len hl ho' hr (by omega)).mono ?_
      rintro e w' ⟨p, A2, c2, h1, h2, h3⟩
      exact ⟨_, _, h1, ⟨h.later h3, .inr ⟨rfl, rfl, _, p, A2, _, c2, rfl, h2, Nat.le_refl _, h.tp⟩⟩, h3⟩
    · rw [fromX16, if_neg ho, if_neg hr]
      refine (From_order16 h.img h.len hl ho' hr).mono ?_
      rintro e w' ⟨h1, h2⟩
      exact ⟨_, _, h1, ⟨h.later h2, .inl ⟨by decide, rfl, rfl⟩⟩, h2⟩
theorem Mk16.rfrom {va ve : Value} {lo : Nat} {A : Option Addr} {n c : Nat} {l : List Int} (h : Mk16 w W top m g m2 v q L lo (fromX16 q l) l va ve) (hl : Ints W A n c l) (hn : n ≤ 100) : Calls Tryz.prog 12 #[.pointer (some ⟨m2, 0, none⟩), .slice A n c] W fun e w' => ∃ va2, e = .returned (.tuple #[va2, .agg #[.slice none 0 0, .int .i64 (fromX16 q l)]]) ∧ Ns16 w w' top m g m2 v q L lo (fromX16 q l) l va ve va2 ∧ Below W.heap.size W w' := by
  have hq := h.1.q_le
  have hll := hl.len
  by_cases ho : l.any (outR16 q) = true
  · have hx : fromX16 q l = 1 := by rw [fromX16, if_pos ho]
    rw [hx] at h ⊢
    refine (refFrom_bad16 h.1.ref (blks_length _ _) hq hl ho).mono ?_
    rintro e w' ⟨h1, h2⟩
    refine ⟨_, h1, ⟨h.1.later h2, ?_⟩, h2⟩
    rcases h.2 with ⟨h2, h3, h4⟩ | ⟨h2, _⟩
    · exact .inl ⟨h2, h3, h4, rfl⟩
    · exact absurd h2 (by decide)
  · have ho' : l.any (outR16 q) = false := by simpa using ho
    by_cases hr : Rises16 l
    · have hx : fromX16 q l = 0 := by rw [fromX16, if_neg ho, if_pos hr]
      rw [hx] at h ⊢
      refine (refFrom_good16 h.1.ref (blks_length _ _) hq hl ho' hr (by omega)).mono ?_
      rintro e w' ⟨p, h1, h2, h3⟩
      exact ⟨_, h1, Ns16.made h h2 h3 (by omega), h3⟩
    · have hx : fromX16 q l = 8 := by rw [fromX16, if_neg ho, if_neg hr]
      rw [hx] at h ⊢
      refine (refFrom_order16 h.1.ref (blks_length _ _) hq hl ho' hr).mono ?_
      rintro e w' ⟨h1, h2⟩
      refine ⟨_, h1, ⟨h.1.later h2, ?_⟩, h2⟩
      rcases h.2 with ⟨h2, h3, h4⟩ | ⟨h2, _⟩
      · exact .inl ⟨h2, h3, h4, rfl⟩
      · exact absurd h2 (by decide)
end
end Go.Proofs.YtajeelbeochojaaGreatDoor

/-
  Slices of structs of a bool, an integer and a slice of bytes: in memory, and opened.
-/
namespace Go.Proofs.YtajeelbeochojaaGreatDoor
open Go.ChangeShapes Go.WideShapes Go.ChangeAt Go.RowKit Go.Deep
set_option linter.unusedVariables false
set_option linter.unusedSimpArgs false

/-- a slice of structs of a bool, an integer and a slice of bytes -/
structure Btp (w : World) (A : Option Addr) (n c : Nat) (ll : List (Bool × Int × List UInt8)) : Prop where
  len : ll.length = n
  cap : n ≤ c
  most : c ≤ 9223372036854775807
  row : ∀ k (h : k < ll.length), ∃ ad A' m c', A = some ad ∧ w.cell? (ad.add (k * 3)) = some (.bool ll[k].1) ∧ w.cell? (ad.add (k * 3 + 1)) = some (.int .i64 ll[k].2.1) ∧ w.cell? (ad.add (k * 3 + 2)) = some (.slice A' m c') ∧ Bytes8 w A' m c' ll[k].2.2

theorem Btp.below {w w' : World} {A : Option Addr} {n c : Nat} {ll : List (Bool × Int × List UInt8)} (h : Btp w A n c ll) (hb : Below w.heap.size w w') : Btp w' A n c ll :=
  ⟨h.len, h.cap, h.most, fun k hk => by
    obtain ⟨ad, A', m, c', e, h0, h1, h2, hB⟩ := h.row k hk
    exact ⟨ad, A', m, c', e, (hb.cell (cell_lt h0)).trans h0, (hb.cell (cell_lt h1)).trans h1, (hb.cell (cell_lt h2)).trans h2, hB.below hb⟩⟩

theorem Btp.nil (w : World) : Btp w none 0 0 [] := ⟨rfl, Nat.le_refl _, Nat.zero_le _, fun k h => by simp at h⟩

theorem Btp.lit {w : World} {A : Option Addr} {n c : Nat} {ll : List (Bool × Int × List UInt8)} (h : Btp w A n c ll) (hp : 0 < n) :
    ∃ b off, A = some ⟨b, off, none⟩ ∧ b < w.heap.size ∧ ∀ k (h : k < ll.length), ∃ A' m c', w.cell? ⟨b, off + k * 3, none⟩ = some (.bool ll[k].1) ∧ w.cell? ⟨b, off + (k * 3 + 1), none⟩ = some (.int .i64 ll[k].2.1) ∧ w.cell? ⟨b, off + (k * 3 + 2), none⟩ = some (.slice A' m c') ∧ Bytes8 w A' m c' ll[k].2.2 := by
  obtain ⟨ad, A', m, c', rfl, hc, _⟩ := h.row 0 (by rw [h.len]; exact hp)
  obtain ⟨b, off, spot⟩ := ad
  have hspot : spot = none := by simpa [Addr.add] using World.cell?_spot hc
  subst hspot
  refine ⟨b, off, rfl, by simpa [Addr.add] using cell_lt hc, fun k hk => ?_⟩
  obtain ⟨ad', A', m, c', e, h0, h1, h2, hB⟩ := h.row k hk
  cases e
  rw [Addr.add_lit] at h0 h1 h2
  exact ⟨A', m, c', h0, h1, h2, hB⟩

section
variable {H : Type} {enc : TypeId × Value → H} {P : Program} {w : World} {base : Nat} {held : Bool}

theorem open_bsteps {t e q b : TypeId} {f0 f1 f2 : Field} {A : Option Addr} {n c : Nat} {d : DataW H} {p : List MemPlace} (ht : P.underlying t = some (.slice e)) (he : P.underlying e = some (.struct #[f0, f1, f2]))
    (hone : oneCellFields P #[f0, f1, f2] = true) (hC : P.cellsOf e = 3) (h0 : P.underlying f0.type = some .bool) (h1 : P.underlying f1.type = some (.int .i64)) (hf2 : f2.type = q) (h2 : P.underlying q = some (.slice b)) (hb : P.underlying b = some (.int .u8)) (cb : P.cellsOf b = 1) (hby : P.bytesOf b = 1)
    (h : DataW.Trod enc P w base (fun _ => true) held t (.slice A n c) d p)
    {ts : List TypeId} {ds : List (DataW H)} (hs : (DataW.weightsEach P ts ds).all (· ≤ reachBytes) = true) {j : Nat} (ht0 : ts[j]? = some t) (hd : ds[j]? = some d) :
    ∃ ll : List (Bool × Int × List UInt8), Btp w A n c ll ∧ ∀ s ∈ ll, (-9223372036854775808 ≤ s.2.1 ∧ s.2.1 ≤ 9223372036854775807) ∧ s.2.2.length ≤ 140737488351232 := by
  subst hf2
  obtain ⟨fuel, hf⟩ := h
  rcases open_slice ht hf with ⟨hcs, _⟩ | ⟨x, l, c', m, k, D, Pl, hcs, _, hl, hm, hmm, hx, hi⟩
  · simp [Value.cells] at hcs
    obtain ⟨rfl, rfl, rfl⟩ := hcs
    exact ⟨[], Btp.nil w, by simp⟩
  · simp [Value.cells] at hcs
    obtain ⟨rfl, rfl, rfl⟩ := hcs
    simp only [if_true] at hmm
    subst hmm
    rw [hC] at hi
    simp only [Prod.mk.injEq] at hx
    obtain ⟨hx, _⟩ := hx
    have hone0 := hone_of hone 0 f0 rfl
    have hone1 := hone_of hone 1 f1 rfl
    have hone2 := hone_of hone 2 f2 rfl
    have each : ∀ i, i < n → ∃ s : Bool × Int × List UInt8, (∃ A' m c', w.cell? (x.add (i * 3)) = some (.bool s.1) ∧ w.cell? (x.add (i * 3 + 1)) = some (.int .i64 s.2.1) ∧ w.cell? (x.add (i * 3 + 2)) = some (.slice A' m c') ∧ Bytes8 w A' m c' s.2.2) ∧
        (-9223372036854775808 ≤ s.2.1 ∧ s.2.1 ≤ 9223372036854775807) ∧ s.2.2.length ≤ 140737488351232 := by
      intro i hin
      obtain ⟨cs', hc, htr⟩ := hi i (by omega)
      obtain ⟨_, hcl, hat⟩ := World.cells?_some hc
      match cs', hcl with
      | [u0, u1, u2], _ =>
        obtain ⟨y0, y1, y2, n', hD, _, g0, g1, g2⟩ := trod_struct3 he htr
        rw [hone0.1, hone0.2] at g0
        rw [hone1.1, hone1.2] at g1
        rw [hone2.1, hone2.2] at g2
        have g0' : DataW.trod enc P w base (fun _ => true) held n' f0.type [u0] = some y0 := by simpa using g0
        have g1' : DataW.trod enc P w base (fun _ => true) held n' f1.type [u1] = some y1 := by simpa using g1
        have g2' : DataW.trod enc P w base (fun _ => true) held n' f2.type [u2] = some y2 := by simpa using g2
        obtain ⟨z0, e0, _⟩ := DataW.trod_bool h0 (x := y0) g0'
        simp at e0
        subst e0
        obtain ⟨z1, e1, _, w1⟩ := DataW.trod_int h1 (x := y1) g1'
        simp at e1
        subst e1
        have c0 := hat 0 (by omega)
        have c1 := hat 1 (by omega)
        have c2 := hat 2 (by omega)
        rw [addr_add_add] at c0 c1 c2
        have hsl : ∃ A' m' c2, u2 = .slice A' m' c2 ∧ m' ≤ 140737488351232 := by
          rcases open_slice h2 g2' with ⟨hcs, _⟩ | ⟨x2, l2, cp2, m2, k2, D2, P2, hcs, _, hl2, hm2, hmm2, hx2, _⟩
          · simp at hcs
            exact ⟨none, 0, 0, hcs, by omega⟩
          · simp at hcs
            refine ⟨some x2, l2, cp2, hcs, ?_⟩
            simp only [if_true] at hmm2
            subst hmm2
            have hin1 : m2 * P.bytesOf b ∈ y2.1.weights P f2.type := by
              rw [hx2]
              simp only [DataW.weights, h2, List.mem_cons]
              refine .inl ?_
              simp only [List.length_map, List.length_range]
              congr 1
              omega
            have hin2 : m2 * P.bytesOf b ∈ (D i).weights P e := by
              simp only [Prod.mk.injEq] at hD
              rw [hD.1]
              simp only [DataW.weights, he, DataW.weightsEach, List.map_cons, List.map_nil, List.mem_append]
              exact .inr (.inr (.inl hin1))
            have hin3 : m2 * P.bytesOf b ∈ d.weights P t := by
              rw [hx]
              simp only [DataW.weights, ht, List.mem_cons, List.mem_append]
              exact .inr (.inl (weights_inner (d := D i) (List.mem_map.2 ⟨i, List.mem_range.2 hin, rfl⟩) _ hin2))
            have := List.all_eq_true.1 hs _ (DataW.weights_mem_each ht0 hd _ hin3)
            rw [hby, Nat.mul_one] at this
            have h9 : m2 ≤ reachBytes := of_decide_eq_true this
            have h10 : reachBytes = 140737488351232 := by decide
            omega
        obtain ⟨A', m', c3, rfl, hm'⟩ := hsl
        obtain ⟨lb, hB⟩ := open_bytes h2 hb cb ⟨n', by simpa [Value.cells] using g2'⟩
        refine ⟨(z0, z1, lb), ⟨A', m', c3, by simpa using c0, by simpa using c1, by simpa using c2, hB⟩, bd_i64 w1, ?_⟩
        rw [hB.len]; exact hm'
    obtain ⟨f, hfq⟩ := choose_lt each
    refine ⟨(List.range n).map f, ⟨by simp, hl, by simpa [maxLen] using hm, fun k hk => ?_⟩, fun s hs => ?_⟩
    · have hk' : k < n := by simpa using hk
      obtain ⟨⟨A', m', c2, h1, h2, h3, h4⟩, _⟩ := hfq k hk'
      simp only [List.getElem_map, List.getElem_range]
      exact ⟨x, A', m', c2, rfl, h1, h2, h3, h4⟩
    · obtain ⟨i, hi2, rfl⟩ := List.mem_map.1 hs
      exact (hfq i (List.mem_range.1 hi2)).2

end
end Go.Proofs.YtajeelbeochojaaGreatDoor

/-
  The walk of AllocPlays.
-/
namespace Go.Proofs.YtajeelbeochojaaGreatDoor
open Go.RowKit
set_option linter.unusedVariables false
set_option linter.unusedSimpArgs false

section
variable {w W : World} {q : Nat} {l : List Int} {p m p2 m2 t : Nat} {L : List UInt8} {t2 : Nat} {L2 : List UInt8} {lo : Nat}
theorem Pl16.lt (h : Pl16 w W q l p m p2 m2 t L t2 L2 lo) : p2 < W.heap.size := by
  obtain ⟨base, g, A, n, c, base2, v, h⟩ := h
  exact h.ri.ra.plt
theorem Pl16.low (h : Pl16 w W q l p m p2 m2 t L t2 L2 lo) (lo' : Nat) (hl : lo' ≤ lo) : Pl16 w W q l p m p2 m2 t L t2 L2 lo' := by
  obtain ⟨base, g, A, n, c, base2, v, h⟩ := h
  exact ⟨base, g, A, n, c, base2, v, ⟨h.bel, h.ai, h.ri, h.len, h.len2, h.hm, h.hg, h.ht, h.own, h.hp, Nat.le_trans hl h.lo, h.few, h.te⟩⟩
theorem Pl16.nf_le (h : Pl16 w W q l p m p2 m2 t L t2 L2 lo) : (l.drop t).length ≤ 9223372036854775807 := by
  obtain ⟨base, g, A, n, c, base2, v, h⟩ := h
  rw [List.length_drop]
  have := h.few
  omega
/-- a store behind all of both sides -/
theorem Pl16.two {b : Nat} (h : Pl16 w W q l p m p2 m2 t L t2 L2 lo) (hb : p2 < b) (y z : Value) : Pl16 w ((W.setCell ⟨b, 0, none⟩ y).setCell ⟨b, 1, none⟩ z) q l p m p2 m2 t L t2 L2 lo := by
  obtain ⟨base, g, A, n, c, base2, v, h⟩ := h
  have hk : ∀ k, k ≠ b → ((W.setCell ⟨b, 0, none⟩ y).setCell ⟨b, 1, none⟩ z).heap[k]? = W.heap[k]? := fun k hk => by
    rw [heap_setCell_other _ _ k _ hk, heap_setCell_other _ _ k _ hk]
  have hf : Fr2 W ((W.setCell ⟨b, 0, none⟩ y).setCell ⟨b, 1, none⟩ z) (some b) none := ⟨rfl, rfl, rfl, by simp [World.setCell], fun k _ h1 _ => hk k (fun e => h1 (by rw [e]))⟩
  have j1 := h.hg
  have j3 := h.hp
  have j4 := h.ai.alc.bp
  have j5 := h.hm
  have j6 := h.ht
  have j7 := h.ri.ra.1
  have j8 := h.ai.img.bp
  exact ⟨base, g, A, n, c, base2, v, ⟨below_store2 h.bel (by omega) _ _, ⟨h.ai.alc.fr2 hf (fun k e => by injection e; omega) (fun k e => by cases e), ⟨h.ai.img.bp, h.ai.img.bg, h.ai.img.ne, (hk m (by omega)).trans h.ai.img.hp, (hk g (by omega)).trans h.ai.img.hg, h.ai.img.most⟩, h.ai.mlt, h.ai.glt⟩,
      ⟨h.ri.ra.new_two hb _ _, h.ri.ri.mov (hk m2 (by omega)) (fun k e => hk k (by have := h.own k e; omega)), h.ri.mlt, h.ri.own⟩, h.len, h.len2, h.hm, h.hg, h.ht, h.own, h.hp, h.lo, h.few, h.te⟩⟩
end
theorem keeps_two16 {W : World} {b : Nat} {x y : Value} (h : FltAt W b x y) (c d : Value) : Keeps W ((W.setCell ⟨b, 0, none⟩ c).setCell ⟨b, 1, none⟩ d) := fun k cs e => by
  have hne : k ≠ b := fun e2 => by
    rw [e2, show W.heap[b]? = _ from h] at e
    injection e with e
    injection e with _ e2 _
    exact absurd e2 (by decide)
  exact two_other e hne _ _

/-- a step has been made on both sides: its errors, in the interface value and in the variable -/
structure Aft16 (w W : World) (q : Nat) (l : List Int) (p m p2 m2 bh : Nat) (gv : Value) (A : Option Addr) (n c : Nat) (bl : List Int) (x : Int) (t : Nat) (L : List UInt8) : Prop where
  pl : Pl16 w W q l p m p2 m2 t L t L 0
  err : ErrD16 W gv bl x
  flt : FltAt W bh (.slice A n c) (.int .i64 x)
  ints : Ints W A n c bl
section
variable {w W W' : World} {q : Nat} {l : List Int} {p m p2 m2 bh : Nat} {gv : Value} {A : Option Addr} {n c : Nat} {bl : List Int} {x : Int} {t : Nat} {L : List UInt8}
theorem Aft16.later (h : Aft16 w W q l p m p2 m2 bh gv A n c bl x t L) (hb : Below W.heap.size W W') : Aft16 w W' q l p m p2 m2 bh gv A n c bl x t L := ⟨h.pl.later hb, h.err.below hb, h.flt.later hb, h.ints.below hb⟩
/-- the document's answer has been laid into the variable -/
theorem Aft16.made {V : World} (hp : Pl16 w W q l p m p2 m2 t L t L 0) (he : ErrD16 W gv bl x) (hf : FltAt W bh (.slice none 0 0) (.int .i64 0)) (hi : Ints W A n c bl) (hn : Newer V.heap.size A) (hv : bh < V.heap.size) (hlt : p2 < bh) :
    Aft16 w ((W.setCell ⟨bh, 0, none⟩ (.slice A n c)).setCell ⟨bh, 1, none⟩ (.int .i64 x)) q l p m p2 m2 bh gv A n c bl x t L :=
  ⟨hp.two hlt _ _, he.keep (keeps_two16 hf _ _), hf.store _ _, hi.newer hn (two_keep W bh _ _ hv)⟩
end

/-- an error on both sides, while it is compared -/
structure Rr16 (w W : World) (bf : Nat) (ve : Value) (x : Int) (P : World → Prop) : Prop where
  bel : Below w.heap.size w W
  flt : FltAt W bf (.slice none 0 0) (.int .i64 x)
  err : ErrD16 W ve [] x
  more : P W
section
variable {w W W' : World} {bf : Nat} {ve : Value} {x : Int} {P : World → Prop}
theorem Rr16.later (h : Rr16 w W bf ve x P) (hP : ∀ V V', Below V.heap.size V V' → P V → P V') (hb : Below W.heap.size W W') : Rr16 w W' bf ve x P := ⟨h.bel.trans (hb.mono h.bel.size), h.flt.later hb, h.err.below hb, hP _ _ hb h.more⟩
theorem Rr16.told (h : Rr16 w W bf ve x P) (hP : ∀ V V', Below V.heap.size V V' → P V → P V') (hg : ErrT w) : Calls Tryz.prog 14 #[ve] W fun e w' => ∃ A n c, e = .returned (.agg #[.slice A n c, .int .i64 x]) ∧ Hid (Ints w' A n c []) ∧ Rr16 w w' bf ve x P :=
  (h.err.told (hg.later h.bel)).mono fun e w' ⟨A, n, c, h1, h2, h3⟩ => ⟨A, n, c, h1, h2, h.later hP h3⟩
theorem Rr16.same {A : Option Addr} {n c : Nat} (h : Rr16 w W bf ve x P) (hP : ∀ V V', Below V.heap.size V V' → P V → P V') (hI : Hid (Ints W A n c [])) : Calls Tryz.prog 13 #[.agg #[.slice A n c, .int .i64 x], .agg #[.slice none 0 0, .int .i64 x]] W fun e w' => e = .returned (.bool true) ∧ Rr16 w w' bf ve x P :=
  (Flt_same x hI.out (Ints.nil W)).mono fun e w' ⟨h1, h2⟩ => ⟨h1, h.later hP h2⟩
end

set_option maxRecDepth 100000 in
set_option maxHeartbeats 6400000 in
theorem plays16_small (A : Option Addr) (n c : Nat) (lb : List UInt8) (from_ : Int) (A3 : Option Addr) (n3 c3 : Nat) (ls : List Int) (A4 : Option Addr) (n4 c4 : Nat) (ll : List (Bool × Int × List UInt8)) (w : World) (h : Bytes8 w A n c lb) (h3 : Ints w A3 n3 c3 ls) (h4 : Btp w A4 n4 c4 ll) (hR : ∀ s ∈ ll, s.2.2.length ≤ 140737488351232) (hg : ErrT w) (hp : Pow w) (hn : n ≤ 6000) (hn3 : n3 ≤ 100) (hn4 : n4 ≤ 30) :
    Calls Tryz.prog 3 #[.slice A n c, .int .i64 from_, .slice A3 n3 c3, .slice A4 n4 c4] w fun e w' => e = .returned (.bool true) ∧ Below w.heap.size w w' := by
  have hlen := h.len
  obtain ⟨q, hq⟩ : ∃ q, q = n / 256 := ⟨_, rfl⟩
  have hL : (lb.take (q * 256)).length = q * 256 := by rw [List.length_take]; omega
  have FO : Hid (Calls Tryz.prog 7 #[.slice A n c] w fun e w' => ∃ m g, e = .returned (.pointer (some ⟨m, 0, none⟩)) ∧ Img w' w.heap.size m g (lb.take (q * 256)) ∧ Below w.heap.size w w') := by
    have := Of_any _ n c lb w h
    rwa [whole_small hn, ← hq] at this
  have FR : Hid (∀ W m g, Img W w.heap.size m g (lb.take (q * 256)) → Below w.heap.size w W → Calls Tryz.prog 8 #[.slice A n c] W fun e w' => ∃ m2 v, e = .returned (.pointer (some ⟨m2, 0, none⟩)) ∧ Hid (Im16 w w' w'.heap.size m g m2 v q (lb.take (q * 256)))) := fun W m g hi hb => by
    have := refOf_any A n c lb W (h.below hb) (Nat.le_trans hn (by decide))
    have e : blks lb q = blks (lb.take (q * 256)) q := by
      unfold blks
      exact List.map_congr_left fun j hj => (blk_take (List.mem_range.1 hj)).symm
    rw [← hq, e] at this
    refine this.mono ?_
    rintro e w' ⟨v, h1, hr, hb2⟩
    have hr2 : RImg w' w.heap.size W.heap.size v (blks (lb.take (q * 256)) q) := ⟨hb.size, hr.hp, hr.own⟩
    exact ⟨W.heap.size, v, h1, ⟨hb.trans (hb2.mono hb.size), hi.later hb2, hr2, hi.plt, hi.glt, hr2.plt, hr2.own_of, Nat.le_refl _, hL⟩⟩
  have NW := Lib.hid (fun (W : World) (top m g m2 : Nat) (v : Value) (h : Im16 w W top m g m2 v q (lb.take (q * 256))) => h.new_ from_)
  have RN := Lib.hid (fun (W : World) (top m g m2 lo : Nat) (v va ve : Value) (h : Mk16 w W top m g m2 v q (lb.take (q * 256)) lo (newX16 q from_) (newL16 q from_) va ve) => h.rnew from_)
  have FW := Lib.hid (fun (W : World) (top m g m2 : Nat) (v : Value) (h : Im16 w W top m g m2 v q (lb.take (q * 256))) => h.from_ (h3.below h.bel) hn3)
  have RF := Lib.hid (fun (W : World) (top m g m2 lo : Nat) (v va ve : Value) (h : Mk16 w W top m g m2 v q (lb.take (q * 256)) lo (fromX16 q ls) ls va ve) => h.rfrom (h3.below h.1.bel) hn3)
  generalize lb.take (q * 256) = L0 at *
  generalize newX16 q from_ = nx at *
  generalize newL16 q from_ = nl at *
  generalize fromX16 q ls = fx at *
  have hd1 : decide ((6000 : Int) < (n : Int)) = false := decide_eq_false (by omega)
  have hd2 : decide ((30 : Int) < (n4 : Int)) = false := decide_eq_false (by omega)
  have hd3 : decide ((100 : Int) < (n3 : Int)) = false := decide_eq_false (by omega)
  have H4 := Lib.hid h4
  have HR := Lib.hid hR
  have HG := Lib.hid hg
  have HP := Lib.hid hp
  clear h h3 h4 hR hg hp hlen hq hL
  go_enter Tryz.func3, Tryz.ntmps3
  go_upto_if 53 with (first
    | (go_at_call 7; (with_reducible refine (FO.out).mono ?_); rintro e w1 ⟨m, g, rfl, hI1, hb1⟩)
    | (go_at_call 8; (with_reducible refine (FR.out _ _ _ hI1 hb1).mono ?_); rintro e w2 ⟨m2, v, rfl, hI2⟩)
    | (go_at_call 9; (with_reducible refine (NW.out _ _ _ _ _ _ hI2.out).mono ?_); rintro e w3 ⟨va, ve, rfl, hM3, hb3⟩)
    | (go_at_call 10; (with_reducible refine (RN.out _ _ _ _ _ _ _ _ _ hM3).mono ?_); rintro e w4 ⟨va2, rfl, hN4, hb4⟩))
  have hN5 := hN4.later ((Below.refl w4.heap.size w4).alloc (Nat.le_refl _) (.cells #[.slice none 0 0, .int .i64 nx] 37))
  have hf5 := FltAt.new w4 (.slice none 0 0) (.int .i64 nx)
  have htop : w2.heap.size ≤ w4.heap.size := hN4.1.tp
  obtain ⟨w5, hw5⟩ : ∃ w5, w4.alloc (.cells #[.slice none 0 0, .int .i64 nx] 37) = w5 := ⟨_, rfl⟩
  rw [hw5] at hN5 hf5
  rw [hw5]
  have hbf : w4.heap.size < w5.heap.size := by rw [← hw5]; simp
  have HI5 : Hid (Im16 w w5 w2.heap.size m g m2 v q L0) := hN5.1
  have HN5 := Lib.hid hN5
  have HF5 := Lib.hid hf5
  clear hN4 hN5 hf5 hw5 hb4 hb3 hM3 hI2 hI1 hb1 FO FR NW RN
  generalize w4.heap.size = bf at *
  generalize w2.heap.size = top at *
  go_cut [11, 12, 13] (fun s11 s12 s13 wx => ∃ (lo : Nat) (x : Int) (li : List Int), Hid (Ns16 w wx top m g m2 v q L0 lo x li s11 s12 s13 ∧ FltAt wx bf (.slice none 0 0) (.int .i64 x)))
  case first =>
    by_cases hs : 0 < n3
    · have hs1 : decide ((0 : Int) < (n3 : Int)) = true := decide_eq_true (by omega)
      have hs2 : decide (0 < n3) = true := decide_eq_true hs
      go_wp2_with (first
        | (go_at_call 11; (with_reducible refine (FW.out _ _ _ _ _ _ HI5.out).mono ?_); rintro e w6 ⟨va6, ve6, rfl, hM6, hb6⟩; have hf6 := HF5.out.later hb6; have HF6 := Lib.hid hf6; clear hf6)
        | (go_at_call 12; (with_reducible refine (RF.out _ _ _ _ _ _ _ _ _ hM6).mono ?_); rintro e w7 ⟨va7, rfl, hN7, hb7⟩; have hf7 := HF6.out.later hb7; obtain ⟨⟨y0, y1⟩, y2, y3⟩ := hf7.cs; have HF7 := Lib.hid hf7; clear hf7))
      go_meet
      exact ⟨_, fx, ls, hN7.two htop hbf _ _, HF7.out.store _ _⟩
    · have hs1 : decide ((0 : Int) < (n3 : Int)) = false := decide_eq_false (by omega)
      have hs2 : decide (0 < n3) = false := decide_eq_false hs
      go_wp2_with fail
      go_meet
      exact ⟨_, nx, nl, HN5.out, HF5.out⟩
  case rest =>
    obtain ⟨lo, x, li, hX⟩ := hcut
    rcases hX.out.1.2 with ⟨hx, rfl, rfl, rfl⟩ | ⟨rfl, rfl, p, p2, rfl, rfl, hPl⟩
    · have hr : Rr16 w wc bf (.iface 60 (.int .i64 x)) x (fun _ => True) := ⟨hX.out.1.1.bel, hX.out.2, ErrD16.num _ _, trivial⟩
      have hrd := hr.later (fun _ _ _ _ => trivial) (Below.refl wc.heap.size wc).drew
      have TL := Lib.hid (fun W (h : Rr16 w W bf (.iface 60 (.int .i64 x)) x (fun _ => True)) => h.told (fun _ _ _ _ => trivial) HG.out)
      have SM := Lib.hid (fun W A n c (h : Rr16 w W bf (.iface 60 (.int .i64 x)) x (fun _ => True)) (hI : Hid (Ints W A n c [])) => h.same (fun _ _ _ _ => trivial) hI)
      have LV : Hid (∀ W, Rr16 w W bf (.iface 60 (.int .i64 x)) x (fun _ => True) → Calls Tryz.prog 6 #[] W fun e w' => e = .returned (.bool true) ∧ Below w.heap.size w w') := fun W hW => (lives16_any W (HP.out.later hW.bel)).mono fun e w' ⟨h1, h2⟩ => ⟨h1, hW.bel.trans (h2.mono hW.bel.size)⟩
      obtain ⟨⟨k0, k1⟩, _, _⟩ := hr.flt.cs
      obtain ⟨⟨kd0, kd1⟩, _, _⟩ := hrd.flt.cs
      clear hX FW RF
      go_wp2
      go_region_held3 (fun W => W.cell? ⟨bf, 0, none⟩ = some (.slice none 0 0) ∧ W.cell? ⟨bf, 1, none⟩ = some (.int .i64 x))
        (first | assumption | exact ⟨kd0, kd1⟩ | go_keep)
        (first
        | (go_at_call 14; (with_reducible refine (TL.out _ (by assumption)).mono ?_); rintro e w5 ⟨A5, n5, c5, rfl, hI5, hN5⟩; have hf5 := hN5.flt.cs.1)
        | (go_at_call 13; (with_reducible refine (SM.out _ _ _ _ hN5 hI5).mono ?_); rintro e w6 ⟨rfl, hN6⟩; have hf6 := hN6.flt.cs.1))
      all_goals go_wp2_with (go_at_call 6; (with_reducible refine (LV.out _ hN6).mono ?_); rintro e w7 ⟨rfl, hb7⟩)
      all_goals go_ret
      all_goals exact ⟨rfl, hb7⟩
    · have hP0 := hPl.low 0 (Nat.zero_le _)
      have PM : Hid (∀ V V', Below V.heap.size V V' → Pl16 w V q li p m p2 m2 0 L0 0 L0 0 → Pl16 w V' q li p m p2 m2 0 L0 0 L0 0) := fun V V' hb hV => hV.later hb
      have hr : Rr16 w wc bf .nilIface 0 (fun W => Pl16 w W q li p m p2 m2 0 L0 0 L0 0) := ⟨hP0.bel, hX.out.2, ErrD16.nil _, hP0⟩
      have hrd := hr.later PM.out (Below.refl wc.heap.size wc).drew
      have TL := Lib.hid (fun W (h : Rr16 w W bf .nilIface 0 (fun W => Pl16 w W q li p m p2 m2 0 L0 0 L0 0)) => h.told PM.out HG.out)
      have SM := Lib.hid (fun W A n c (h : Rr16 w W bf .nilIface 0 (fun W => Pl16 w W q li p m p2 m2 0 L0 0 L0 0)) (hI : Hid (Ints W A n c [])) => h.same PM.out hI)
      obtain ⟨⟨k0, k1⟩, _, _⟩ := hr.flt.cs
      obtain ⟨⟨kd0, kd1⟩, _, _⟩ := hrd.flt.cs
      clear hX FW RF hPl hP0
      go_wp2
      go_region_held3 (fun W => W.cell? ⟨bf, 0, none⟩ = some (.slice none 0 0) ∧ W.cell? ⟨bf, 1, none⟩ = some (.int .i64 0))
        (first | assumption | exact ⟨kd0, kd1⟩ | go_keep)
        (first
        | (go_at_call 14; (with_reducible refine (TL.out _ (by assumption)).mono ?_); rintro e w5 ⟨A5, n5, c5, rfl, hI5, hN5⟩; have hf5 := hN5.flt.cs.1)
        | (go_at_call 13; (with_reducible refine (SM.out _ _ _ _ hN5 hI5).mono ?_); rintro e w6 ⟨rfl, hN6⟩; have hf6 := hN6.flt.cs.1))
      clear hr hrd k0 k1 kd0 kd1 TL SM hN5 hI5 hf5 hf6
      have HP6 := Lib.hid hN6.more
      clear hN6
      go_wp2
      have hcap4 := H4.out.cap
      have hmost4 := H4.out.most
      go_loopw [15] (fun i wr => ∃ (j t : Nat) (L : List UInt8), j ≤ n4 ∧ i = .int .i64 j ∧ Hid (Pl16 w wr q li p m p2 m2 t L t L 0)) (fun i _ => n4 - (intOf i).toNat)
      case atStart => exact ⟨0, 0, L0, by omega, rfl, HP6⟩
      case round =>
        clear HP6
        obtain ⟨j, t, L, hj, rfl, hP⟩ := hrel
        have LV : Hid (∀ W, Pl16 w W q li p m p2 m2 t L t L 0 → Calls Tryz.prog 6 #[] W fun e w' => e = .returned (.bool true) ∧ Pl16 w w' q li p m p2 m2 t L t L 0) := fun W hW => (lives16_any W (HP.out.later hW.bel)).mono fun e w' ⟨h1, h2⟩ => ⟨h1, hW.later h2⟩
        by_cases hlt : j < n4
        · have hjl : j < ll.length := by rw [H4.out.len]; exact hlt
          obtain ⟨b2, off2, rfl, hb2, hcc⟩ := H4.out.lit (Nat.lt_of_le_of_lt (Nat.zero_le _) hlt)
          obtain ⟨A', m', c', e0, e1, e2, hB0⟩ := hcc j hjl
          have hbp := hP.out.bel
          have hc0 := (hbp.cell (p := ⟨b2, off2 + j * 3, none⟩) hb2).trans e0
          have hc1 := (hbp.cell (p := ⟨b2, off2 + (j * 3 + 1), none⟩) hb2).trans e1
          have hc2 := (hbp.cell (p := ⟨b2, off2 + (j * 3 + 2), none⟩) hb2).trans e2
          have hc1' := hc1
          have hc2' := hc2
          rw [show off2 + (j * 3 + 1) = off2 + j * 3 + 1 by omega] at hc1'
          rw [show off2 + (j * 3 + 2) = off2 + j * 3 + 2 by omega] at hc2'
          obtain ⟨nx, hnx⟩ : ∃ nx, nx = ll[j].1 := ⟨_, rfl⟩
          obtain ⟨kk, hkk⟩ : ∃ kk, kk = ll[j].2.1 := ⟨_, rfl⟩
          obtain ⟨li2, hli⟩ : ∃ li2, li2 = ll[j].2.2 := ⟨_, rfl⟩
          rw [← hnx] at hc0
          rw [← hkk] at hc1 hc1'
          rw [← hli] at hB0
          have HB0 := Lib.hid hB0
          have hml := hB0.le
          clear hcc e0 e1 e2 hbp hnx hkk hli hB0
          by_cases hbig : 600 < m'
          · have hdb : decide ((600 : Int) < (m' : Int)) = true := decide_eq_true (by omega)
            have hdb2 : decide (600 < m') = true := decide_eq_true hbig
            have hP2 := hP.out.later ((Below.refl wr.heap.size wr).alloc (Nat.le_refl _) (.cells #[.bool nx, .int .i64 kk, .slice A' m' c'] 45))
            go_wp2_with (go_at_call 6; (with_reducible refine (LV.out _ hP2).mono ?_); rintro e w7 ⟨rfl, hP7⟩)
            go_ret
            exact ⟨rfl, hP7.bel⟩
          · have hdb : decide ((600 : Int) < (m' : Int)) = false := decide_eq_false (by omega)
            have hdb2 : decide (600 < m') = false := decide_eq_false hbig
            have htl := hP.out.le
            obtain ⟨o, ho⟩ : ∃ o, o = out16 q li nx kk li2 t L := ⟨_, rfl⟩
            have h0 : Below wr.heap.size wr (wr.alloc (.cells #[.bool nx, .int .i64 kk, .slice A' m' c'] 45)) := (Below.refl _ _).alloc (Nat.le_refl _) _
            have h00 := h0.alloc h0.size (.cells #[.slice none 0 0, .int .i64 0] 37)
            have hst : (wr.alloc (.cells #[.bool nx, .int .i64 kk, .slice A' m' c'] 45)).heap[wr.heap.size]? = some (.cells #[.bool nx, .int .i64 kk, .slice A' m' c'] 45 (0, 0)) := heap_alloc_new wr _
            have hst2 := (Below.heap_alloc (wr.alloc (.cells #[.bool nx, .int .i64 kk, .slice A' m' c'] 45)) (.cells #[.slice none 0 0, .int .i64 0] 37) wr.heap.size (by simp)).trans hst
            have hfh : FltAt ((wr.alloc (.cells #[.bool nx, .int .i64 kk, .slice A' m' c'] 45)).alloc (.cells #[.slice none 0 0, .int .i64 0] 37)) (wr.heap.size + 1) (.slice none 0 0) (.int .i64 0) := by
              have := FltAt.new (wr.alloc (.cells #[.bool nx, .int .i64 kk, .slice A' m' c'] 45)) (.slice none 0 0) (.int .i64 0)
              rwa [World.size_alloc] at this
            have hP2 := hP.out.later h00
            have hlt2 := hP.out.lt
            clear hst h0 h00
            go_upto_if 98 with fail
            obtain ⟨w2, hw2⟩ : ∃ w2, (wr.alloc (.cells #[.bool nx, .int .i64 kk, .slice A' m' c'] 45)).alloc (.cells #[.slice none 0 0, .int .i64 0] 37) = w2 := ⟨_, rfl⟩
            rw [hw2] at hst2 hfh hP2
            rw [hw2]
            have HBH : Hid (p2 < wr.heap.size + 1) := by show _ < _; omega
            have HP2 := Lib.hid hP2
            have HFH := Lib.hid hfh
            have HST : Hid (∀ W, Kp16 w2 W → W.cell? ⟨wr.heap.size, 1, none⟩ = some (.int .i64 kk) ∧ W.cell? ⟨wr.heap.size, 2, none⟩ = some (.slice A' m' c')) := fun W hW => by
              have e := (hW wr.heap.size _ _ hst2 (by decide) (by decide) (by decide) (by decide)).trans hst2
              exact ⟨cell_of_row W wr.heap.size 1 _ _ _ e, cell_of_row W wr.heap.size 2 _ _ _ e⟩
            obtain ⟨s1, s2⟩ := HST.out w2 (fun _ _ _ _ _ _ _ _ => rfl)
            have HTL := Lib.hid htl
            clear hst2 hfh hP2 hw2 hc0 hc1 hc2 hc1' hc2' hP htl
            generalize wr.heap.size = bs at *
            go_cut [17, 18, 19] (fun s17 s18 s19 wx => ∃ (A5 : Option Addr) (n5 c5 : Nat), s17 = .int .i64 o.no ∧ s19 = .int .i64 o.no ∧ Hid (Aft16 w wx q li p m p2 m2 (bs + 1) s18 A5 n5 c5 o.bl o.x o.t o.L))
            case first =>
              cases nx with
              | true =>
                have NX : Hid (Calls Tryz.prog 15 #[.pointer (some ⟨p, 0, none⟩)] w2 fun e w' => ∃ gv, e = .returned (.tuple #[.int .i64 o.no, gv]) ∧ Hid (ErrD16 w' gv o.bl o.x ∧ Pl16 w w' q li p m p2 m2 o.t o.L t L 0 ∧ Kp16 w2 w')) := by rw [ho]; exact HP2.out.next kk li2
                have TK : Hid (∀ W, Pl16 w W q li p m p2 m2 o.t o.L t L 0 → Calls Tryz.prog 16 #[.pointer (some ⟨p2, 0, none⟩)] W fun e w' => ∃ A n c, e = .returned (.tuple #[.int .i64 o.no, .agg #[.slice A n c, .int .i64 o.x]]) ∧ Hid (Ints w' A n c o.bl ∧ Newer W.heap.size A ∧ Pl16 w w' q li p m p2 m2 o.t o.L o.t o.L 0 ∧ Kp16 W w')) := fun W hW => by rw [ho] at hW ⊢; exact hW.take_ kk li2 HTL.out
                clear ho
                go_wp2_with (first
                  | (go_at_call 15; (with_reducible refine (NX.out).mono ?_); rintro e w3 ⟨gv, rfl, hX3⟩)
                  | (go_at_call 16; (with_reducible refine (TK.out _ hX3.out.2.1).mono ?_); rintro e w4 ⟨A5, n5, c5, rfl, hX4⟩; have hF4 := hX4.out.2.2.2.flt (hX3.out.2.2.flt HFH.out); obtain ⟨⟨y0, y1⟩, y2, y3⟩ := hF4.cs; have HF4 := Lib.hid hF4; clear hF4))
                go_meet
                exact ⟨A5, n5, c5, rfl, rfl, Aft16.made hX4.out.2.2.1 (hX3.out.1.keep hX4.out.2.2.2.keeps) HF4.out hX4.out.1 hX4.out.2.1 (block_lt (hX3.out.2.2.flt HFH.out)) HBH.out⟩
              | false =>
                have LY : Hid (Calls Tryz.prog 17 #[.pointer (some ⟨p, 0, none⟩), .int .i64 kk, .slice A' m' c'] w2 fun e w' => ∃ gv, e = .returned (.tuple #[.int .i64 o.no, gv]) ∧ Hid (ErrD16 w' gv o.bl o.x ∧ Pl16 w w' q li p m p2 m2 o.t o.L t L 0 ∧ Kp16 w2 w')) := by rw [ho]; exact HP2.out.lay kk HB0.out
                have RL : Hid (∀ W, Pl16 w W q li p m p2 m2 o.t o.L t L 0 → Calls Tryz.prog 18 #[.pointer (some ⟨p2, 0, none⟩), .int .i64 kk, .slice A' m' c'] W fun e w' => ∃ A n c, e = .returned (.tuple #[.int .i64 o.no, .agg #[.slice A n c, .int .i64 o.x]]) ∧ Hid (Ints w' A n c o.bl ∧ Newer W.heap.size A ∧ Pl16 w w' q li p m p2 m2 o.t o.L o.t o.L 0 ∧ Kp16 W w')) := fun W hW => by rw [ho] at hW ⊢; exact hW.rlay kk HTL.out HB0.out
                clear ho
                go_wp2_with (first
                  | (go_at_call 17; (with_reducible refine (LY.out).mono ?_); rintro e w3 ⟨gv, rfl, hX3⟩; obtain ⟨s13, s23⟩ := HST.out w3 hX3.out.2.2)
                  | (go_at_call 18; (with_reducible refine (RL.out _ hX3.out.2.1).mono ?_); rintro e w4 ⟨A5, n5, c5, rfl, hX4⟩; have hF4 := hX4.out.2.2.2.flt (hX3.out.2.2.flt HFH.out); obtain ⟨⟨y0, y1⟩, y2, y3⟩ := hF4.cs; have HF4 := Lib.hid hF4; clear hF4))
                go_meet
                exact ⟨A5, n5, c5, rfl, rfl, Aft16.made hX4.out.2.2.1 (hX3.out.1.keep hX4.out.2.2.2.keeps) HF4.out hX4.out.1 hX4.out.2.1 (block_lt (hX3.out.2.2.flt HFH.out)) HBH.out⟩
            case rest =>
              obtain ⟨A5, n5, c5, rfl, rfl, hA⟩ := hcut
              have hle5 : o.t ≤ li.length := hA.out.pl.le
              clear ho HTL HST HFH HP2 s1 s2 LV
              generalize o.no = ono at *
              generalize o.bl = obl at *
              generalize o.x = ox at *
              generalize o.t = ot at *
              generalize o.L = oL at *
              obtain ⟨A8, c8, hcl⟩ := hA.out.pl.cells
              have FX : Hid (∀ W, Aft16 w W q li p m p2 m2 (bs + 1) u18 A5 n5 c5 obl ox ot oL ∧ Below wc.heap.size wc W → (W.cell? ⟨bs + 1, 0, none⟩ = some (.slice A5 n5 c5) ∧ W.cell? ⟨bs + 1, 1, none⟩ = some (.int .i64 ox)) ∧ W.cell? ⟨p2, 1, none⟩ = some (.slice A8 (li.drop ot).length c8) ∧ W.cell? ⟨p2, 2, none⟩ = some (.int .i64 (ot : Int))) := fun W hW => ⟨hW.1.flt.cs.1, hcl W hW.2⟩
              have NE : Hid (∀ W W', Aft16 w W q li p m p2 m2 (bs + 1) u18 A5 n5 c5 obl ox ot oL ∧ Below wc.heap.size wc W → Below W.heap.size W W' → Aft16 w W' q li p m p2 m2 (bs + 1) u18 A5 n5 c5 obl ox ot oL ∧ Below wc.heap.size wc W') := fun W W' hW hb => ⟨hW.1.later hb, hW.2.trans (hb.mono hW.2.size)⟩
              have TL : Hid (∀ W, Aft16 w W q li p m p2 m2 (bs + 1) u18 A5 n5 c5 obl ox ot oL ∧ Below wc.heap.size wc W → Calls Tryz.prog 14 #[u18] W fun e w' => ∃ A n c, e = .returned (.agg #[.slice A n c, .int .i64 ox]) ∧ Hid (Ints w' A n c obl) ∧ (Aft16 w w' q li p m p2 m2 (bs + 1) u18 A5 n5 c5 obl ox ot oL ∧ Below wc.heap.size wc w')) := fun W hW => (hW.1.err.told (HG.out.later hW.1.pl.bel)).mono fun e w' ⟨A, n, c, h1, h2, h3⟩ => ⟨A, n, c, h1, h2, NE.out _ _ hW h3⟩
              have SM : Hid (∀ W A n c, Aft16 w W q li p m p2 m2 (bs + 1) u18 A5 n5 c5 obl ox ot oL ∧ Below wc.heap.size wc W → Hid (Ints W A n c obl) → Calls Tryz.prog 13 #[.agg #[.slice A n c, .int .i64 ox], .agg #[.slice A5 n5 c5, .int .i64 ox]] W fun e w' => e = .returned (.bool true) ∧ (Aft16 w w' q li p m p2 m2 (bs + 1) u18 A5 n5 c5 obl ox ot oL ∧ Below wc.heap.size wc w')) := fun W A n c hW hI => (Flt_same ox hI.out hW.1.ints).mono fun e w' ⟨h1, h2⟩ => ⟨h1, NE.out _ _ hW h2⟩
              have LF : Hid (∀ W, Aft16 w W q li p m p2 m2 (bs + 1) u18 A5 n5 c5 obl ox ot oL ∧ Below wc.heap.size wc W → Calls Tryz.prog 19 #[.pointer (some ⟨p, 0, none⟩)] W fun e w' => e = .returned (.int .i64 ((li.drop ot).length : Int)) ∧ (Aft16 w w' q li p m p2 m2 (bs + 1) u18 A5 n5 c5 obl ox ot oL ∧ Below wc.heap.size wc w')) := fun W hW => hW.1.pl.left.mono fun e w' ⟨h1, h2⟩ => ⟨h1, NE.out _ _ hW h2⟩
              have US : Hid (∀ W, Aft16 w W q li p m p2 m2 (bs + 1) u18 A5 n5 c5 obl ox ot oL ∧ Below wc.heap.size wc W → Calls Tryz.prog 20 #[.pointer (some ⟨p, 0, none⟩)] W fun e w' => e = .returned (.int .i64 (ot : Int)) ∧ (Aft16 w w' q li p m p2 m2 (bs + 1) u18 A5 n5 c5 obl ox ot oL ∧ Below wc.heap.size wc w')) := fun W hW => hW.1.pl.used.mono fun e w' ⟨h1, h2⟩ => ⟨h1, h2 ▸ hW⟩
              have AH : Hid (∀ W, Aft16 w W q li p m p2 m2 (bs + 1) u18 A5 n5 c5 obl ox ot oL ∧ Below wc.heap.size wc W → Calls Tryz.prog 22 #[.pointer (some ⟨p, 0, none⟩), .int .i64 (j : Int)] W fun e w' => ∃ A c, e = .returned (.slice A ((li.drop ot).take j).length c) ∧ Hid (Ints w' A ((li.drop ot).take j).length c ((li.drop ot).take j)) ∧ (Aft16 w w' q li p m p2 m2 (bs + 1) u18 A5 n5 c5 obl ox ot oL ∧ Below wc.heap.size wc w')) := fun W hW => (hW.1.pl.ahead j).mono fun e w' ⟨A, c, h1, h2, h3⟩ => ⟨A, c, h1, h2, NE.out _ _ hW h3⟩
              have RH : Hid (∀ W A c, Aft16 w W q li p m p2 m2 (bs + 1) u18 A5 n5 c5 obl ox ot oL ∧ Below wc.heap.size wc W → Hid (Ints W A ((li.drop ot).take j).length c ((li.drop ot).take j)) → Calls Tryz.prog 23 #[.pointer (some ⟨p2, 0, none⟩), .int .i64 (j : Int)] W fun e w' => ∃ A2 c2, e = .returned (.slice A2 ((li.drop ot).take j).length c2) ∧ Hid (Ints w' A ((li.drop ot).take j).length c ((li.drop ot).take j)) ∧ Hid (Ints w' A2 ((li.drop ot).take j).length c2 ((li.drop ot).take j)) ∧ (Aft16 w w' q li p m p2 m2 (bs + 1) u18 A5 n5 c5 obl ox ot oL ∧ Below wc.heap.size wc w')) := fun W A c hW hI => (hW.1.pl.rahead j (by omega)).mono fun e w' ⟨A2, c2, h1, h2, h3⟩ => ⟨A2, c2, h1, hI.out.below h3, h2, NE.out _ _ hW h3⟩
              have S1 : Hid (∀ W A c A2 c2, Aft16 w W q li p m p2 m2 (bs + 1) u18 A5 n5 c5 obl ox ot oL ∧ Below wc.heap.size wc W → Hid (Ints W A ((li.drop ot).take j).length c ((li.drop ot).take j)) → Hid (Ints W A2 ((li.drop ot).take j).length c2 ((li.drop ot).take j)) → Calls Tryz.prog 21 #[.slice A ((li.drop ot).take j).length c, .slice A2 ((li.drop ot).take j).length c2] W fun e w' => e = .returned (.bool true) ∧ (Aft16 w w' q li p m p2 m2 (bs + 1) u18 A5 n5 c5 obl ox ot oL ∧ Below wc.heap.size wc w')) := fun W A c A2 c2 hW h1 h2 => (Same_same _ _ _ _ _ _ W h1.out h2.out).mono fun e w' ⟨h3, h4⟩ => ⟨h3, NE.out _ _ hW h4⟩
              have hA0 : Aft16 w wc q li p m p2 m2 (bs + 1) u18 A5 n5 c5 obl ox ot oL ∧ Below wc.heap.size wc wc := ⟨hA.out, Below.refl _ _⟩
              have hAd := NE.out _ _ hA0 (Below.refl wc.heap.size wc).drew
              have fd := FX.out _ hAd
              have f0 := FX.out _ hA0
              have hnf : (li.drop ot).length ≤ 9223372036854775807 := hA.out.pl.nf_le
              generalize (li.drop ot).take j = la at *
              generalize (li.drop ot).length = nf at *
              clear hcl NE hA
              go_wp2
              go_region_held3 (fun W => (W.cell? ⟨bs + 1, 0, none⟩ = some (.slice A5 n5 c5) ∧ W.cell? ⟨bs + 1, 1, none⟩ = some (.int .i64 ox)) ∧ W.cell? ⟨p2, 1, none⟩ = some (.slice A8 nf c8) ∧ W.cell? ⟨p2, 2, none⟩ = some (.int .i64 (ot : Int)))
                (first | assumption | go_keep)
                (first
                | (go_at_call 14; (with_reducible refine (TL.out _ (by assumption)).mono ?_); rintro e w5 ⟨A6, n6, c6, rfl, hI5, hN5⟩; have f5 := FX.out _ hN5)
                | (go_at_call 13; (with_reducible refine (SM.out _ _ _ _ hN5 hI5).mono ?_); rintro e w6 ⟨rfl, hN6⟩; have f6 := FX.out _ hN6)
                | (go_at_call 19; (with_reducible refine (LF.out _ hN6).mono ?_); rintro e w7 ⟨rfl, hN7⟩; have f7 := FX.out _ hN7)
                | (go_at_call 20; (with_reducible refine (US.out _ hN7).mono ?_); rintro e w8 ⟨rfl, hN8⟩; have f8 := FX.out _ hN8)
                | (go_at_call 22; (with_reducible refine (AH.out _ hN8).mono ?_); rintro e w9 ⟨A9, c9, rfl, hI9, hN9⟩; have f9 := FX.out _ hN9)
                | (go_at_call 23; (with_reducible refine (RH.out _ _ _ hN9 hI9).mono ?_); rintro e wa ⟨Aa, ca, rfl, hI9, hIa, hNa⟩; have fa := FX.out _ hNa)
                | (go_at_call 21; (with_reducible refine (S1.out _ _ _ _ _ hNa hI9 hIa).mono ?_); rintro e wb ⟨rfl, hNb⟩; have fb := FX.out _ hNb))
              all_goals go_wp2
              all_goals go_roundw
              case rel => exact ⟨j + 1, ot, oL, by omega, by go_num, hNb.1.pl⟩
              case measure => simp only [intOf]; omega
        · obtain rfl : j = n4 := by omega
          have BY : Hid (∀ W, Pl16 w W q li p m p2 m2 t L t L 0 → Calls Tryz.prog 25 #[.pointer (some ⟨m, 0, none⟩)] W fun e w' => ∃ A, e = .returned (.slice A L.length L.length) ∧ Bytes8 w' A L.length L.length L ∧ Below W.heap.size W w' ∧ Pl16 w w' q li p m p2 m2 t L t L 0) := fun W hW => hW.bytes.mono fun e w' ⟨A, h1, h2, h3⟩ => ⟨A, h1, h2, h3, hW.later h3⟩
          have BR : Hid (∀ W, Pl16 w W q li p m p2 m2 t L t L 0 → Calls Tryz.prog 26 #[.pointer (some ⟨m2, 0, none⟩)] W fun e w' => ∃ A c, e = .returned (.slice A L.length c) ∧ Bytes8 w' A L.length c L ∧ Below W.heap.size W w' ∧ Pl16 w w' q li p m p2 m2 t L t L 0) := fun W hW => hW.rbytes.mono fun e w' ⟨A, c, h1, h2, h3⟩ => ⟨A, c, h1, h2, h3, hW.later h3⟩
          have IM : Hid (∀ W, Pl16 w W q li p m p2 m2 t L t L 0 → Calls Tryz.prog 24 #[.pointer (some ⟨p, 0, none⟩)] W fun e w' => e = .returned (.pointer (some ⟨m, 0, none⟩)) ∧ W = w') := fun W hW => hW.image
          have hPd : Pl16 w wr.drew q li p m p2 m2 t L t L 0 := hP.out.later (Below.refl _ _).drew
          clear hP
          go_wp2
          go_region_with (first
            | (go_at_call 24; (with_reducible refine (IM.out _ (by assumption)).mono ?_); rintro e w3 ⟨rfl, rfl⟩)
            | (go_at_call 25; first
                | ((with_reducible refine (BY.out _ hN6).mono ?_); rintro e w7 ⟨A7, rfl, hB7, hb7, hN7⟩; have hB57 := hB5.below (hb6.trans (hb7.mono hb6.size)); have hB67 := hB6.below hb7; have cv7 := run_str hB7; have cv57 := run_str hB57; have cv67 := run_str hB67)
                | ((with_reducible refine (BY.out _ hPd).mono ?_); rintro e w5 ⟨A5, rfl, hB5, hb5, hN5⟩; have cv5 := run_str hB5))
            | (go_at_call 26; first
                | ((with_reducible refine (BR.out _ hN7).mono ?_); rintro e w8 ⟨A8, c8, rfl, hB8, hb8, hN8⟩; have cv8 := run_str hB8; have cv58 := run_str (hB57.below hb8); have cv68 := run_str (hB67.below hb8); have cv78 := run_str (hB7.below hb8))
                | ((with_reducible refine (BR.out _ hN5).mono ?_); rintro e w6 ⟨A6, c6, rfl, hB6, hb6, hN6⟩; have cv6 := run_str hB6; have cv56 := run_str (hB5.below hb6)))
            | (go_at_call 6; (with_reducible refine (LV.out _ (by assumption)).mono ?_); rintro e w9 ⟨rfl, hN9⟩))
          all_goals go_wp2
          all_goals go_ret
          all_goals exact ⟨rfl, hN9.bel⟩

end Go.Proofs.YtajeelbeochojaaGreatDoor

/-
  The walk of AllocPlays, for all inputs.
-/
namespace Go.Proofs.YtajeelbeochojaaGreatDoor
open Go.RowKit
set_option linter.unusedVariables false
set_option linter.unusedSimpArgs false

set_option maxRecDepth 100000 in
set_option maxHeartbeats 3200000 in
theorem plays16_big (A : Option Addr) (n c : Nat) (from_ : Int) (A3 : Option Addr) (n3 c3 : Nat) (A4 : Option Addr) (n4 c4 : Nat) (w : World) (hp : Pow w) (h1 : n ≤ 9223372036854775807) (h3 : n3 ≤ 9223372036854775807) (h4 : n4 ≤ 9223372036854775807) (h : 6000 < n ∨ 30 < n4 ∨ 100 < n3) :
    Calls Tryz.prog 3 #[.slice A n c, .int .i64 from_, .slice A3 n3 c3, .slice A4 n4 c4] w fun e w' => e = .returned (.bool true) ∧ Below w.heap.size w w' := by
  have LV := Lib.hid (lives16_any w hp)
  clear hp
  by_cases g1 : 6000 < n
  · have hd : decide ((6000 : Int) < (n : Int)) = true := decide_eq_true (by omega)
    have hd2 : decide (6000 < n) = true := decide_eq_true g1
    clear h
    go_enter Tryz.func3, Tryz.ntmps3
    go_wp2_with (go_at_call 6; (with_reducible refine (LV.out).mono ?_); rintro e w1 ⟨rfl, hb1⟩)
    go_ret
    exact ⟨rfl, hb1⟩
  · have hd : decide ((6000 : Int) < (n : Int)) = false := decide_eq_false (by omega)
    have hd2 : decide (6000 < n) = false := decide_eq_false g1
    by_cases g2 : 30 < n4
    · have hd3 : decide ((30 : Int) < (n4 : Int)) = true := decide_eq_true (by omega)
      have hd4 : decide (30 < n4) = true := decide_eq_true g2
      clear h
      go_enter Tryz.func3, Tryz.ntmps3
      go_wp2_with (go_at_call 6; (with_reducible refine (LV.out).mono ?_); rintro e w1 ⟨rfl, hb1⟩)
      go_ret
      exact ⟨rfl, hb1⟩
    · have g3 : 100 < n3 := by omega
      have hd3 : decide ((30 : Int) < (n4 : Int)) = false := decide_eq_false (by omega)
      have hd4 : decide (30 < n4) = false := decide_eq_false g2
      have hd5 : decide ((100 : Int) < (n3 : Int)) = true := decide_eq_true (by omega)
      have hd6 : decide (100 < n3) = true := decide_eq_true g3
      clear h
      go_enter Tryz.func3, Tryz.ntmps3
      go_wp2_with (go_at_call 6; (with_reducible refine (LV.out).mono ?_); rintro e w1 ⟨rfl, hb1⟩)
      go_ret
      exact ⟨rfl, hb1⟩

theorem allocplays_walk (A : Option Addr) (n c : Nat) (lb : List UInt8) (from_ : Int) (A3 : Option Addr) (n3 c3 : Nat) (ls : List Int) (A4 : Option Addr) (n4 c4 : Nat) (ll : List (Bool × Int × List UInt8)) (w : World) (h : Bytes8 w A n c lb) (_hf : -9223372036854775808 ≤ from_ ∧ from_ ≤ 9223372036854775807) (h3 : Ints w A3 n3 c3 ls) (_hb : ∀ y ∈ ls, -9223372036854775808 ≤ y ∧ y ≤ 9223372036854775807) (h4 : Btp w A4 n4 c4 ll) (hR : ∀ s ∈ ll, s.2.2.length ≤ 140737488351232) (hg : ErrT w) (hp : Pow w) :
    Calls Tryz.prog 3 #[.slice A n c, .int .i64 from_, .slice A3 n3 c3, .slice A4 n4 c4] w fun e w' => e = .returned (.bool true) ∧ Below w.heap.size w w' := by
  by_cases hbig : 6000 < n ∨ 30 < n4 ∨ 100 < n3
  · exact plays16_big A n c from_ A3 n3 c3 A4 n4 c4 w hp h.le h3.le (Nat.le_trans h4.cap h4.most) hbig
  · exact plays16_small A n c lb from_ A3 n3 c3 ls A4 n4 c4 ll w h h3 h4 hR hg hp (by omega) (by omega) (by omega)

end Go.Proofs.YtajeelbeochojaaGreatDoor
