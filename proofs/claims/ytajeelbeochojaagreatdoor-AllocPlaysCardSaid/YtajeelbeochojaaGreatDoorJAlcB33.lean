/-
  Joined: FltM, FltN, FltO, FltP, FltQ, FltR.
-/
import Derived.Test.YtajeelbeochojaaGreatDoorJAlcB18
import Derived.Test.YtajeelbeochojaaGreatDoorJAlcB32
import Derived.LoopTactic
import Derived.Test.YtajeelbeochojaaGreatDoorJAlcB15
import Derived.Laws.BytesArg
import Derived.Deep.DeepFit
import Derived.Deep.DeepMust
/-
  fault.Text.
-/
namespace Go.Proofs.YtajeelbeochojaaGreatDoor
open Go.RowKit
set_option linter.unusedVariables false
set_option linter.unusedSimpArgs false

theorem idle_text (w : World) :
    CallsD Tryz.prog 46 #[] .returning w fun e u' w' => e = .returned (.tuple #[]) ∧ u' = .returning ∧ w' = w := by
  refine callsD_of_wpS Tryz.func46 rfl fun c₀ cs hu => ?_
  apply wpS_region
  cases c₀
  simp_all [wpOpsS, go_sem, recoverD, Tryz.ntmps46, Exit.thenS, bodyPostS, results, Tryz.results46]

theorem bytes_append (x y : List UInt8) : ((⟨x.toArray⟩ : ByteArray) ++ (⟨y.toArray⟩ : ByteArray)) = ⟨(x ++ y).toArray⟩ := by
  apply ByteArray.ext
  rw [ByteArray.data_append]
  simp
theorem run_add (x y : List UInt8) (h : x.length + y.length ≤ 9223372036854775807) (w : World) : (binOp .add 9 (str x) (str y)).run Tryz.prog w = .ok (str (x ++ y)) w := by
  have h2 := run_string_add_sum (P := Tryz.prog) w ⟨x.toArray⟩ ⟨y.toArray⟩ (by
    show x.toArray.size + y.toArray.size ≤ _
    simpa using h)
  simp only [str]
  simp [binOp, Sem.run_bind, run_underlying Tryz.underlying9, Result.andThen, h2, bytes_append]
theorem run_add_l (c : ByteArray) (x : List UInt8) (h : c.data.toList.length + x.length ≤ 9223372036854775807) (w : World) : (binOp .add 9 (.string c) (str x)).run Tryz.prog w = .ok (str (c.data.toList ++ x)) w := run_add c.data.toList x h w
theorem run_add_r (x : List UInt8) (c : ByteArray) (h : x.length + c.data.toList.length ≤ 9223372036854775807) (w : World) : (binOp .add 9 (str x) (.string c)).run Tryz.prog w = .ok (str (x ++ c.data.toList)) w := run_add x c.data.toList h w

/-- "block " -/
def sBlock : List UInt8 := [98, 108, 111, 99, 107, 32]
/-- ": " -/
def sColon : List UInt8 := [58, 32]
/-- "error " -/
def sError : List UInt8 := [101, 114, 114, 111, 114, 32]
/-- the text of an error -/
def textOf : List Node → List UInt8
  | [] => []
  | .flt b _ :: l => (sBlock ++ Lib.itoa b ++ sColon) ++ textOf l
  | .num n :: _ => sError ++ Lib.itoa n

/-- its numbers are Go's ints -/
def Fits : List Node → Prop
  | [] => True
  | .flt b _ :: l => (-9223372036854775808 ≤ b ∧ b ≤ 9223372036854775807) ∧ Fits l
  | .num n :: l => (-9223372036854775808 ≤ n ∧ n ≤ 9223372036854775807) ∧ Fits l

theorem textOf_le : ∀ l : List Node, Fits l → (textOf l).length ≤ 40 * l.length
  | [], _ => by simp [textOf]
  | .flt b _ :: l, h => by
    have h1 := textOf_le l h.2
    have h2 := Lib.itoa_length_le b h.1.1 h.1.2
    simp [textOf, sBlock, sColon]; omega
  | .num n :: l, h => by
    have h2 := Lib.itoa_length_le n h.1.1 h.1.2
    simp [textOf, sError]; omega

set_option maxRecDepth 100000 in
theorem numErr_any (n : Int) (h0 : -9223372036854775808 ≤ n) (h1 : n ≤ 9223372036854775807) (w : World) (hp : Pow w) :
    Calls Tryz.prog 129 #[.int .i64 n] w fun e w' => e = .returned (str (sError ++ Lib.itoa n)) ∧ Below w.heap.size w w' := by
  have IT := Lib.hid (Itoa_any n h0 h1 w hp)
  have ad := run_add_l ⟨#[101, 114, 114, 111, 114, 32]⟩ (Lib.itoa n) (by have := Lib.itoa_length_le n h0 h1; simp; omega)
  have hs : Hid (([101, 114, 114, 111, 114, 32] : List UInt8) = sError) := rfl
  clear h0 h1 hp
  generalize Lib.itoa n = x at *
  go_enter Tryz.func129, Tryz.ntmps129
  go_wp2_with (go_at_call 50; (with_reducible refine IT.out.mono ?_); rintro e w1 ⟨rfl, b1⟩)
  go_ret
  exact ⟨rfl, b1⟩

end Go.Proofs.YtajeelbeochojaaGreatDoor

/-
  fault.Text: its loop.
-/
namespace Go.Proofs.YtajeelbeochojaaGreatDoor
open Go.RowKit
set_option linter.unusedVariables false
set_option linter.unusedSimpArgs false

theorem method_numErr (n : Nat) (v : Value) (w : World) : (Go.method (n + 1) 60 v "Error").run Tryz.prog w = .ok (129, v) w := by kernel_rfl
theorem bld_kept {w w' : World} {B b : Nat} {bs : List Value} (h : Lib.IsBuilder 91 5 B b bs w) (hk : ∀ k, B ≤ k → k < w.heap.size → w'.heap[k]? = w.heap[k]?) : Lib.IsBuilder 91 5 B b bs w' := by
  have one : ∀ p, Lib.BuilderAt 91 5 B b p bs w → Lib.BuilderAt 91 5 B b p bs w' := by
    rintro p ⟨hB, v, hb, hown, hne⟩
    exact ⟨hB, v, (hk b hB (block_lt hb)).trans hb, own_kept hown hk, hne⟩
  exact h.elim (fun h => .inl (one _ h)) (fun h => .inr (one _ h))

theorem keeps_of_others {w w' : World} {b : Nat} (h : Lib.OthersKept 5 (some b) w w') {c : Array Value} (hb : w.heap[b]? = some (.cells c 91 (0, 0))) : Keeps w w' := fun p x e => by
  by_cases hp : p = b
  · subst hp
    rw [hb] at e
    cases e
  · exact h p _ e (fun e2 => hp (by injection e2)) (fun c fz e2 => by cases e2)

/-- the loop of Text: what has been written, and what is left -/
structure RunT (w0 wr : World) (done : List UInt8) (s : List Node) (N : Nat) (tot : List UInt8) : Prop where
  bel : Below w0.heap.size w0 wr
  bld : Lib.IsBuilder 91 5 (w0.heap.size + 1) (w0.heap.size + 1) (Lib.byteCells done) wr
  seen : Seen wr w0.heap.size s
  good : Good wr s
  fits : Fits s
  num : count wr w0.heap.size + s.length = N
  all : done ++ textOf s = tot

structure MidT (w0 wr : World) (done : List UInt8) (x : Node) (s : List Node) (N : Nat) : Prop where
  bel : Below w0.heap.size w0 wr
  bld : Lib.IsBuilder 91 5 (w0.heap.size + 1) (w0.heap.size + 1) (Lib.byteCells done) wr
  seen : Seen wr w0.heap.size s
  good : Good wr (x :: s)
  num : count wr w0.heap.size + s.length = N

theorem bld_block {w : World} {B b : Nat} {bs : List Value} (h : Lib.IsBuilder 91 5 B b bs w) : ∃ c, w.heap[b]? = some (.cells c 91 (0, 0)) := by
  rcases h with ⟨_, v, hb, _⟩ | ⟨_, v, hb, _⟩ <;> exact ⟨_, hb⟩

theorem MidT.lt {w0 wr : World} {done : List UInt8} {x : Node} {s : List Node} {N : Nat} (h : MidT w0 wr done x s N) : w0.heap.size + 1 < wr.heap.size := by
  obtain ⟨c, hc⟩ := bld_block h.bld
  exact block_lt hc
theorem RunT.lt {w0 wr : World} {done : List UInt8} {s : List Node} {N : Nat} {tot : List UInt8} (h : RunT w0 wr done s N tot) : w0.heap.size + 1 < wr.heap.size := by
  obtain ⟨c, hc⟩ := bld_block h.bld
  exact block_lt hc

theorem RunT.enter {w0 wr w' : World} {done : List UInt8} {x : Node} {s : List Node} {N : Nat} {tot : List UInt8} (h : RunT w0 wr done (x :: s) N tot) (hk : KeptMap w0.heap.size wr w') (hs : Seen w' w0.heap.size s) (hn : count w' w0.heap.size = count wr w0.heap.size + 1) :
    MidT w0 w' done x s N :=
  ⟨h.bel.trans (hk.below (Nat.le_refl _) h.bel.size), bld_kept h.bld (fun k h1 h2 => hk.block k h2 (by omega)), hs, h.good.same (hk.keeps h.seen), by have := h.num; simp only [List.length_cons] at this; omega⟩

theorem MidT.later {w0 wr w' : World} {done : List UInt8} {x : Node} {s : List Node} {N : Nat} (h : MidT w0 wr done x s N) (hb : Below wr.heap.size wr w') : MidT w0 w' done x s N :=
  ⟨h.bel.trans (hb.mono h.bel.size), bld_kept h.bld (fun k h1 h2 => hb.block k h2), h.seen.later hb, h.good.below hb, by rw [count_same (hb.block _ (by have := h.lt; omega))]; exact h.num⟩

theorem MidT.write {w0 wr w' : World} {done done' : List UInt8} {x : Node} {s : List Node} {N : Nat} (h : MidT w0 wr done x s N) (hbl : Lib.IsBuilder 91 5 (w0.heap.size + 1) (w0.heap.size + 1) (Lib.byteCells done') w') (hb : Below (w0.heap.size + 1) wr w') (ho : Lib.OthersKept 5 (some (w0.heap.size + 1)) wr w') : MidT w0 w' done' x s N := by
  obtain ⟨c, hc⟩ := bld_block h.bld
  have hK := keeps_of_others ho hc
  have hm := hb.block w0.heap.size (by omega)
  exact ⟨h.bel.trans (hb.mono (by omega)), hbl, h.seen.same hm hK, h.good.same hK, by rw [count_same hm]; exact h.num⟩

theorem MidT.next {w0 wr : World} {done : List UInt8} {x : Node} {s : List Node} {N : Nat} {tot : List UInt8} (h : MidT w0 wr done x s N) (hf : Fits s) (ht : done ++ textOf s = tot) : RunT w0 wr done s N tot := ⟨h.bel, h.bld, h.seen, h.good.tail, hf, h.num, ht⟩

/-- a text is written -/
theorem WriteS_any (B b : Nat) (done l : List UInt8) (w : World) (h : Lib.IsBuilder 91 5 B b (Lib.byteCells done) w) (hlen : done.length + l.length ≤ 140737488355328) (hBw : B ≤ w.heap.size) :
    Calls Tryz.prog 49 #[.pointer (some ⟨b, 0, none⟩), str l] w fun e w' => e = .returned (.tuple #[.int .i64 l.length, .nilIface]) ∧ (Lib.IsBuilder 91 5 B b (Lib.byteCells (done ++ l)) w' ∧ Below B w w' ∧ Lib.OthersKept 5 (some b) w w') := by
  have hs : (⟨l.toArray⟩ : ByteArray).size = l.length := by show l.toArray.size = _; simp
  refine (WriteString_any B b (Lib.byteCells done) ⟨l.toArray⟩ w h (by rw [Lib.byteCells_length, hs]; exact hlen) hBw).mono ?_
  rintro e w' ⟨rfl, h1, h2, h3⟩
  rw [Lib.strCells_toArray, ← Lib.byteCells_append] at h1
  exact ⟨by rw [hs], h1, h2, h3⟩

theorem String_any (B b : Nat) (l : List UInt8) (w : World) (h : Lib.IsBuilder 91 5 B b (Lib.byteCells l) w) (hBw : B ≤ w.heap.size) :
    Calls Tryz.prog 47 #[.pointer (some ⟨b, 0, none⟩)] w fun e w' => e = .returned (str l) ∧ Below B w w' := by
  refine (Tryz.Builder_String_any_k B b l w (Lib.IsBuilderF.of h) hBw).mono ?_
  rintro e w' ⟨rfl, _, h2, _⟩
  exact ⟨rfl, h2⟩

set_option maxRecDepth 100000 in
set_option maxHeartbeats 4000000 in
theorem Text_err {x0 : Node} {l0 : List Node} {w : World} (hG : Good w (x0 :: l0)) (hF : Fits (x0 :: l0)) (hp : Pow w) (hlen : (x0 :: l0).length ≤ 1000000) :
    Calls Tryz.prog 28 #[val (x0 :: l0)] w fun e w' => e = .returned (str (textOf (x0 :: l0))) ∧ Below w.heap.size w w' := by
  have hmm := @run_makeMap Tryz.prog
  have b1 : Below w.heap.size w (w.alloc (.map #[] 0)) := (Below.refl _ _).alloc (Nat.le_refl _) _
  have b2 : Below w.heap.size w ((w.alloc (.map #[] 0)).alloc (.cells #[.pointer none, .slice none 0 0] 91)) := b1.alloc b1.size _
  have hsz : (w.alloc (.map #[] 0)).heap.size = w.heap.size + 1 := by simp
  have hm : ((w.alloc (.map #[] 0)).alloc (.cells #[.pointer none, .slice none 0 0] 91)).heap[w.heap.size]? = some (.map #[] 0) := (Below.heap_alloc _ _ _ (by omega)).trans (MapKept.heap_alloc w (.map #[] 0)).1
  have hbb := (MapKept.heap_alloc (w.alloc (.map #[] 0)) (.cells #[.pointer none, .slice none 0 0] 91)).1
  rw [hsz] at hbb
  have HS : Hid (RunT w ((w.alloc (.map #[] 0)).alloc (.cells #[.pointer none, .slice none 0 0] 91)) [] (x0 :: l0) (x0 :: l0).length (textOf (x0 :: l0))) :=
    ⟨b2, .inl ⟨Nat.le_refl _, _, hbb, World.ownsRow_nil _ _ _ _, by simp [Value.ownBlock]⟩, ⟨_, _, hm, fun _ e he => by simp at he⟩, hG.below b2, hF, by rw [count_of hm]; simp, rfl⟩
  have HP : Hid (Pow w) := hp
  have HC : Hid ((textOf (x0 :: l0)).length ≤ 40000000) := Nat.le_trans (textOf_le _ hF) (by omega)
  obtain ⟨t0, u0, hv0⟩ : ∃ t u, val (x0 :: l0) = .iface t u := by cases x0 <;> exact ⟨_, _, rfl⟩
  have HV0 := Lib.hid hv0
  rw [hv0]
  generalize htot : textOf (x0 :: l0) = tot at *
  generalize (x0 :: l0).length = N at *
  clear hG hF hp hlen hm b1 b2 htot hbb hsz hv0
  go_enter_defers Tryz.func28, Tryz.ntmps28
  go_wp2
  generalize hB : w.heap.size = B at *
  have HB := Lib.hid hB
  clear hB
  go_loopw [0] (fun ev wr => ∃ x s done, ev = val (x :: s) ∧ Hid (RunT w wr done (x :: s) N tot)) (fun ev wr => N - count wr B)
  case atStart => exact ⟨x0, l0, [], HV0.out.symm, HS⟩
  case round =>
    clear HS HV0
    have a1 := is_flt
    have a3 := is_flt_num
    have m1 := method_numErr
    obtain ⟨x, s, done, rfl, HR⟩ := hrel
    have EN := Lib.hid (enter_new HR.out.seen HR.out.good)
    rw [HB.out] at EN
    have HN := Lib.hid HR.out.num
    have HLd := Lib.hid (show done.length ≤ 40000000 by
      have h1 := HR.out.all
      have h2 := HC.out
      rw [← h1] at h2
      simp only [List.length_append] at h2
      omega)
    cases x with
    | flt b p =>
      have hft := HR.out.fits
      have IT := Lib.hid (fun W h => Itoa_any b hft.1.1 hft.1.2 W h)
      have hil := Lib.itoa_length_le b hft.1.1 hft.1.2
      have HF2 := Lib.hid hft.2
      have ad1 := run_add_l ⟨#[98, 108, 111, 99, 107, 32]⟩ (Lib.itoa b) (by simp; omega)
      have ad2 := run_add_r ([98, 108, 111, 99, 107, 32] ++ Lib.itoa b) ⟨#[58, 32]⟩ (by simp; omega)
      have hpc : Hid (([98, 108, 111, 99, 107, 32] ++ Lib.itoa b) ++ [58, 32] = (sBlock ++ Lib.itoa b) ++ sColon) := rfl
      have hpl : (([98, 108, 111, 99, 107, 32] ++ Lib.itoa b) ++ [58, 32]).length ≤ 100 := by simp; omega
      have HA2 := Lib.hid (show (done ++ ((sBlock ++ Lib.itoa b) ++ sColon)) ++ textOf s = tot by have := HR.out.all; rw [← this]; simp [textOf])
      rw [← hpc.out] at HA2
      simp only [List.cons_append, List.nil_append] at ad1 ad2 HA2 hpl
      have WS := Lib.hid (fun W h h2 => WriteS_any (w.heap.size + 1) (w.heap.size + 1) done (98 :: 108 :: 111 :: 99 :: 107 :: 32 :: (Lib.itoa b ++ [58, 32])) W h (by have := HLd.out; omega) h2)
      rw [HB.out] at WS
      clear hil hpl hft hpc
      generalize Lib.itoa b = it at *
      simp only [val] at EN ⊢
      go_wp2_with (first
        | (go_at_call 48; (with_reducible refine EN.out.mono ?_); rintro e w1 ⟨rfl, hk1, hs1, hn1⟩; have HM := Lib.hid (HR.out.enter (by rw [HB.out]; exact hk1) (by rw [HB.out]; exact hs1) (by rw [HB.out]; exact hn1)); have hcb : w1.cell? ⟨p, 0, none⟩ = some (.int .i64 b) := (by rw [cell_of_row w1 p 0 _ _ _ HM.out.good.1]; rfl); have HP1 := Lib.hid (HP.out.later HM.out.bel); clear hk1 hs1 hn1)
        | (go_at_call 50; (with_reducible refine (IT.out _ HP1.out).mono ?_); rintro e w2 ⟨rfl, b2⟩; have HM2 := Lib.hid (HM.out.later b2); clear b2)
        | (go_at_call 49; (with_reducible refine (WS.out _ (by rw [← HB.out]; exact HM2.out.bld) (by rw [← HB.out]; exact Nat.le_of_lt HM2.out.lt)).mono ?_); rintro e w3 ⟨rfl, hb3, hl3, ho3⟩; have HM3 := Lib.hid (HM2.out.write (by rw [HB.out]; exact hb3) (by rw [HB.out]; exact hl3) (by rw [HB.out]; exact ho3)); have hce : w3.cell? ⟨p, 1, none⟩ = some (val s) := (by rw [cell_of_row w3 p 1 _ _ _ HM3.out.good.1]; rfl); clear hb3 hl3 ho3))
      go_roundw
      case rel =>
        have hne : s ≠ [] := HM3.out.good.2.2.1
        obtain ⟨x, s, rfl⟩ : ∃ x s', s = x :: s' := by
          cases s with
          | nil => exact absurd rfl hne
          | cons x s => exact ⟨x, s, rfl⟩
        exact ⟨x, s, _, rfl, HM3.out.next HF2.out HA2.out⟩
      case measure =>
        have h1 := HN.out
        have h2 := HM3.out.num
        simp only [List.length_cons, HB.out] at h1 h2
        omega
    | num n =>
      have hft := HR.out.fits
      have ST := Lib.hid (fun W h h2 => String_any (w.heap.size + 1) (w.heap.size + 1) done W h h2)
      rw [HB.out] at ST
      have NE := Lib.hid (fun W h => numErr_any n hft.1.1 hft.1.2 W h)
      have hil := Lib.itoa_length_le n hft.1.1 hft.1.2
      have ad := run_add done (sError ++ Lib.itoa n) (by have := HLd.out; simp [sError]; omega)
      have HA := Lib.hid (show done ++ (sError ++ Lib.itoa n) = tot by have := HR.out.all; simpa [textOf] using this)
      clear hil hft
      generalize sError ++ Lib.itoa n = en at *
      have HPr := Lib.hid (HP.out.later HR.out.bel)
      simp only [val]
      go_wp2_with (first
        | (go_at_call 47; (with_reducible refine (ST.out _ (by rw [← HB.out]; exact HR.out.bld) (by rw [← HB.out]; exact Nat.le_of_lt HR.out.lt)).mono ?_); rintro e w1 ⟨rfl, b1⟩; have H1 := Lib.hid (HR.out.bel.trans (b1.mono (by have := HB.out; omega))); clear b1)
        | (go_at_call 129; (with_reducible refine (NE.out _ (HP.out.later H1.out)).mono ?_); rintro e w2 ⟨rfl, b2⟩; have H2 := Lib.hid b2; clear b2))
      refine leaves_cons (f := 46) (args := #[]) (by simp) (by simp [go_sem]) ?_
      refine (idle_text _).mono ?_
      rintro e u' w'' ⟨rfl, rfl, rfl⟩
      simp [Leaves, settle, results, Tryz.results28, go_sem]
      exact ⟨by rw [← HA.out], H1.out.trans (H2.out.mono H1.out.size)⟩
end Go.Proofs.YtajeelbeochojaaGreatDoor

/-
  fault.At, fault.First; the law's Own.
-/
namespace Go.Proofs.YtajeelbeochojaaGreatDoor
open Go.RowKit
set_option linter.unusedVariables false
set_option linter.unusedSimpArgs false

theorem Good.lower {w : World} : ∀ {l : List Node}, Good w l → Lower w.heap.size l
  | [], _ => fun b q h => by cases h
  | .flt b p :: l, ⟨h1, h2, h3, h4⟩ => fun c q h => by
    rcases List.mem_cons.1 h with h | h
    · injection h with h5 h6; subst h6; exact block_lt h1
    · exact Good.lower h4 c q h
  | .num n :: l, h => fun c q h2 => by
    have h : l = [] := h
    subst h
    rcases List.mem_cons.1 h2 with h2 | h2
    · cases h2
    · cases h2

/-- a Fault around an error -/
theorem Good.wrap {w : World} {l : List Node} (h : Good w l) (hne : l ≠ []) (b : Int) : Good (w.alloc (.cells #[.int .i64 b, val l] 99)) (.flt b w.heap.size :: l) :=
  ⟨(MapKept.heap_alloc w _).1, h.lower, hne, h.below ((Below.refl _ _).alloc (Nat.le_refl _) _)⟩

set_option maxRecDepth 100000 in
theorem At_err (b : Int) {l : List Node} (hne : l ≠ []) {w : World} (hG : Good w l) :
    Calls Tryz.prog 76 #[.int .i64 b, val l] w fun e w' => ∃ p, e = .returned (val (.flt b p :: l)) ∧ Good w' (.flt b p :: l) ∧ Below w.heap.size w w' := by
  have HW := Lib.hid (hG.wrap hne b)
  obtain ⟨t, u, hv⟩ : ∃ t u, val l = .iface t u := by
    cases l with
    | nil => exact absurd rfl hne
    | cons x l => cases x <;> exact ⟨_, _, rfl⟩
  have hb := build_fault b (isI_val l)
  rw [hv] at HW hb ⊢
  clear hv hG
  go_enter Tryz.func76, Tryz.ntmps76
  go_wp2
  go_ret
  exact ⟨_, rfl, HW.out, (Below.refl _ _).alloc (Nat.le_refl _) _⟩

/-- the law's chain: blocks, and a number behind them -/
def Chain : List Int → Int → List Node → Prop
  | [], code, l => l = [.num code]
  | b :: bs, code, l => ∃ p l', l = .flt b p :: l' ∧ Chain bs code l'

theorem Chain.ne : ∀ {bs : List Int} {code : Int} {l : List Node}, Chain bs code l → l ≠ []
  | [], _, _, h => by rw [show _ = _ from h]; simp
  | _ :: _, _, _, ⟨p, l', h, _⟩ => by rw [h]; simp
theorem Chain.ans : ∀ {bs : List Int} {code : Int} {l : List Node}, Chain bs code l → ans l = some code
  | [], _, _, h => by rw [show _ = _ from h]; rfl
  | _ :: _, _, _, ⟨p, l', h, h2⟩ => by rw [h]; exact h2.ans
theorem Chain.len : ∀ {bs : List Int} {code : Int} {l : List Node}, Chain bs code l → l.length = bs.length + 1
  | [], _, _, h => by rw [show _ = _ from h]; rfl
  | _ :: _, _, _, ⟨p, l', h, h2⟩ => by rw [h]; simp [h2.len]
theorem Chain.fits : ∀ {bs : List Int} {code : Int} {l : List Node}, Chain bs code l → (∀ b ∈ bs, -9223372036854775808 ≤ b ∧ b ≤ 9223372036854775807) → (-9223372036854775808 ≤ code ∧ code ≤ 9223372036854775807) → Fits l
  | [], _, _, h, _, h2 => by rw [show _ = _ from h]; exact ⟨h2, trivial⟩
  | b :: _, _, _, ⟨p, l', h, h2⟩, h3, h4 => by
    rw [h]
    exact ⟨h3 b (List.mem_cons_self), h2.fits (fun x hx => h3 x (List.mem_cons_of_mem _ hx)) h4⟩
theorem Chain.code {bs : List Int} {code : Int} {l : List Node} (h : Chain bs code l) : codeOf l = code := by
  have h1 := h.ans
  cases l with
  | nil => exact absurd rfl h.ne
  | cons x l => simp only [codeOf, h1]

/-- a struct of blocks and a number, as a value -/
def rf (A : Option Addr) (n c : Nat) (code : Int) : Value := .agg #[.slice A n c, .int .i64 code]

end Go.Proofs.YtajeelbeochojaaGreatDoor

/-
  fault.First; the law's Told; the reference's Same and At.
-/
namespace Go.Proofs.YtajeelbeochojaaGreatDoor
open Go.RowKit
set_option linter.unusedVariables false
set_option linter.unusedSimpArgs false

/-- errors in a row -/
structure Errs (w : World) (A : Option Addr) (n c : Nat) (ls : List (List Node)) : Prop where
  len : ls.length = n
  cap : n ≤ c
  most : c ≤ 9223372036854775807
  row : Row w A (ls.map val)
theorem Errs.below {w w' : World} {A : Option Addr} {n c : Nat} {ls : List (List Node)} (h : Errs w A n c ls) (hb : Below w.heap.size w w') : Errs w' A n c ls := ⟨h.len, h.cap, h.most, h.row.below hb⟩

/-- the first that is not none -/
def firstOf : List (List Node) → List Node
  | [] => []
  | [] :: ls => firstOf ls
  | (x :: l) :: _ => x :: l

theorem two_sets {w : World} {g : Nat} {t : TypeId} {a b c d : Value} (h : w.heap[g]? = some (.cells #[a, b] t (0, 0))) : ((w.setCell ⟨g, 0, none⟩ c).setCell ⟨g, 1, none⟩ d).heap[g]? = some (.cells #[c, d] t (0, 0)) := by
  have h1 : Blk w g t [a, b] := h
  exact (h1.set 0 c).set 1 d

end Go.Proofs.YtajeelbeochojaaGreatDoor

/-
  The reference's Same; the document's example.
-/
namespace Go.Proofs.YtajeelbeochojaaGreatDoor
open Go.RowKit
set_option linter.unusedVariables false
set_option linter.unusedSimpArgs false

/-- the same text twice -/
theorem run_text_same (x : List UInt8) (c : ByteArray) (h : x = c.data.toList) (w : World) : (binOp .eql 9 (str x) (.string c)).run Tryz.prog w = .ok (.bool true) w := by
  have e : str x = .string c := by
    subst h
    simp [str]
  rw [e]
  simp [binOp, Op.stringOp, beq_toListBytes]

theorem guard_str (t : TypeId) (x y : Operand) (l : List UInt8) (b : Value) (w : World) : (eqGuard .eql t x y (str l) b).run Tryz.prog w = .ok () w := rfl
end Go.Proofs.YtajeelbeochojaaGreatDoor

/-
  The reference's Digits.
-/
namespace Go.Proofs.YtajeelbeochojaaGreatDoor
open Go.RowKit
set_option linter.unusedVariables false
set_option linter.unusedSimpArgs false

end Go.Proofs.YtajeelbeochojaaGreatDoor
