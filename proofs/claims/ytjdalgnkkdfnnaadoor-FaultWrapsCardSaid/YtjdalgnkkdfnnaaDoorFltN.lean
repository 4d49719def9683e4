/-
  fault.Text: its loop.
-/
import Derived.Test.YtjdalgnkkdfnnaaDoorFltM
import Derived.LoopTactic
namespace Go.Proofs.YtjdalgnkkdfnnaaDoor
open Go.RowKit
set_option linter.unusedVariables false
set_option linter.unusedSimpArgs false

theorem method_numErr (n : Nat) (v : Value) (w : World) : (Go.method (n + 1) 34 v "Error").run Tryd.prog w = .ok (79, v) w := by kernel_rfl
theorem method_othErr (n : Nat) (v : Value) (w : World) : (Go.method (n + 1) 43 (.agg #[v]) "Error").run Tryd.prog w = .ok (80, .agg #[v]) w := by kernel_rfl

theorem bld_kept {w w' : World} {B b : Nat} {bs : List Value} (h : Lib.IsBuilder 56 5 B b bs w) (hk : ∀ k, B ≤ k → k < w.heap.size → w'.heap[k]? = w.heap[k]?) : Lib.IsBuilder 56 5 B b bs w' := by
  have one : ∀ p, Lib.BuilderAt 56 5 B b p bs w → Lib.BuilderAt 56 5 B b p bs w' := by
    rintro p ⟨hB, v, hb, hown, hne⟩
    exact ⟨hB, v, (hk b hB (block_lt hb)).trans hb, own_kept hown hk, hne⟩
  exact h.elim (fun h => .inl (one _ h)) (fun h => .inr (one _ h))

theorem keeps_of_others {w w' : World} {b : Nat} (h : Lib.OthersKept 5 (some b) w w') {c : Array Value} (hb : w.heap[b]? = some (.cells c 56 (0, 0))) : Keeps w w' := fun p x e => by
  by_cases hp : p = b
  · subst hp
    rw [hb] at e
    cases e
  · exact h p _ e (fun e2 => hp (by injection e2)) (fun c fz e2 => by cases e2)

/-- the loop of Text: what has been written, and what is left -/
structure RunT (w0 wr : World) (done : List UInt8) (s : List Node) (N : Nat) (tot : List UInt8) : Prop where
  bel : Below w0.heap.size w0 wr
  bld : Lib.IsBuilder 56 5 (w0.heap.size + 1) (w0.heap.size + 1) (Lib.byteCells done) wr
  seen : Seen wr w0.heap.size s
  good : Good wr s
  fits : Fits s
  num : count wr w0.heap.size + s.length = N
  all : done ++ textOf s = tot

structure MidT (w0 wr : World) (done : List UInt8) (x : Node) (s : List Node) (N : Nat) : Prop where
  bel : Below w0.heap.size w0 wr
  bld : Lib.IsBuilder 56 5 (w0.heap.size + 1) (w0.heap.size + 1) (Lib.byteCells done) wr
  seen : Seen wr w0.heap.size s
  good : Good wr (x :: s)
  num : count wr w0.heap.size + s.length = N

theorem bld_block {w : World} {B b : Nat} {bs : List Value} (h : Lib.IsBuilder 56 5 B b bs w) : ∃ c, w.heap[b]? = some (.cells c 56 (0, 0)) := by
  rcases h with ⟨_, v, hb, _⟩ | ⟨_, v, hb, _⟩ <;> exact ⟨_, hb⟩

theorem MidT.lt {w0 wr : World} {done : List UInt8} {x : Node} {s : List Node} {N : Nat} (h : MidT w0 wr done x s N) : w0.heap.size + 1 < wr.heap.size := by
  obtain ⟨c, hc⟩ := bld_block h.bld
  exact block_lt hc
theorem RunT.lt {w0 wr : World} {done : List UInt8} {s : List Node} {N : Nat} {tot : List UInt8} (h : RunT w0 wr done s N tot) : w0.heap.size + 1 < wr.heap.size := by
  obtain ⟨c, hc⟩ := bld_block h.bld
  exact block_lt hc

theorem RunT.enter {w0 wr w' : World} {done : List UInt8} {x : Node} {s : List Node} {N : Nat} {tot : List UInt8} (h : RunT w0 wr done (x :: s) N tot) (hk : KeptMap w0.heap.size wr w') (hs : Seen w' w0.heap.size s) (hn : count w' w0.heap.size = count wr w0.heap.size + 1) :
    MidT w0 w' done x s N :=
  ⟨h.bel.trans (hk.below (Nat.le_refl _) h.bel.size), bld_kept h.bld (fun k h1 h2 => hk.block k h2 (by omega)), hs, h.good.same (hk.keeps h.seen), by have := h.num; simp only [List.length_cons] at this; omega⟩

theorem MidT.later {w0 wr w' : World} {done : List UInt8} {x : Node} {s : List Node} {N : Nat} (h : MidT w0 wr done x s N) (hb : Below wr.heap.size wr w') : MidT w0 w' done x s N :=
  ⟨h.bel.trans (hb.mono h.bel.size), bld_kept h.bld (fun k h1 h2 => hb.block k h2), h.seen.later hb, h.good.below hb, by rw [count_same (hb.block _ (by have := h.lt; omega))]; exact h.num⟩

theorem MidT.write {w0 wr w' : World} {done done' : List UInt8} {x : Node} {s : List Node} {N : Nat} (h : MidT w0 wr done x s N) (hbl : Lib.IsBuilder 56 5 (w0.heap.size + 1) (w0.heap.size + 1) (Lib.byteCells done') w') (hb : Below (w0.heap.size + 1) wr w') (ho : Lib.OthersKept 5 (some (w0.heap.size + 1)) wr w') : MidT w0 w' done' x s N := by
  obtain ⟨c, hc⟩ := bld_block h.bld
  have hK := keeps_of_others ho hc
  have hm := hb.block w0.heap.size (by omega)
  exact ⟨h.bel.trans (hb.mono (by omega)), hbl, h.seen.same hm hK, h.good.same hK, by rw [count_same hm]; exact h.num⟩

theorem MidT.next {w0 wr : World} {done : List UInt8} {x : Node} {s : List Node} {N : Nat} {tot : List UInt8} (h : MidT w0 wr done x s N) (hf : Fits s) (ht : done ++ textOf s = tot) : RunT w0 wr done s N tot := ⟨h.bel, h.bld, h.seen, h.good.tail, hf, h.num, ht⟩

/-- a text is written -/
theorem WriteS_any (B b : Nat) (done l : List UInt8) (w : World) (h : Lib.IsBuilder 56 5 B b (Lib.byteCells done) w) (hlen : done.length + l.length ≤ 140737488355328) (hBw : B ≤ w.heap.size) :
    Calls Tryd.prog 24 #[.pointer (some ⟨b, 0, none⟩), str l] w fun e w' => e = .returned (.tuple #[.int .i64 l.length, .nilIface]) ∧ (Lib.IsBuilder 56 5 B b (Lib.byteCells (done ++ l)) w' ∧ Below B w w' ∧ Lib.OthersKept 5 (some b) w w') := by
  have hs : (⟨l.toArray⟩ : ByteArray).size = l.length := by show l.toArray.size = _; simp
  refine (WriteString_any B b (Lib.byteCells done) ⟨l.toArray⟩ w h (by rw [Lib.byteCells_length, hs]; exact hlen) hBw).mono ?_
  rintro e w' ⟨rfl, h1, h2, h3⟩
  rw [Lib.strCells_toArray, ← Lib.byteCells_append] at h1
  exact ⟨by rw [hs], h1, h2, h3⟩

theorem String_any (B b : Nat) (l : List UInt8) (w : World) (h : Lib.IsBuilder 56 5 B b (Lib.byteCells l) w) (hBw : B ≤ w.heap.size) :
    Calls Tryd.prog 22 #[.pointer (some ⟨b, 0, none⟩)] w fun e w' => e = .returned (str l) ∧ Below B w w' := by
  refine (Tryd.Builder_String_any_k B b l w (Lib.IsBuilderF.of h) hBw).mono ?_
  rintro e w' ⟨rfl, _, h2, _⟩
  exact ⟨rfl, h2⟩

theorem Text_nil (w : World) :
    Calls Tryd.prog 11 #[.nilIface] w fun e w' => e = .returned (str []) ∧ w' = w := by
  go_enter_defers Tryd.func11, Tryd.ntmps11
  go_wp2
  refine leaves_cons (f := 21) (args := #[]) (by simp) (by simp [go_sem]) ?_
  refine (idle_text _).mono ?_
  rintro e u' w'' ⟨rfl, rfl, rfl⟩
  simp [Leaves, settle, results, Tryd.results11, go_sem]
  rfl

set_option maxRecDepth 100000 in
set_option maxHeartbeats 4000000 in
theorem Text_err {x0 : Node} {l0 : List Node} {w : World} (hG : Good w (x0 :: l0)) (hF : Fits (x0 :: l0)) (hp : Pow w) (hlen : (x0 :: l0).length ≤ 1000000) :
    Calls Tryd.prog 11 #[val (x0 :: l0)] w fun e w' => e = .returned (str (textOf (x0 :: l0))) ∧ Below w.heap.size w w' := by
  have hmm := @run_makeMap Tryd.prog
  have b1 : Below w.heap.size w (w.alloc (.map #[] 0)) := (Below.refl _ _).alloc (Nat.le_refl _) _
  have b2 : Below w.heap.size w ((w.alloc (.map #[] 0)).alloc (.cells #[.pointer none, .slice none 0 0] 56)) := b1.alloc b1.size _
  have hsz : (w.alloc (.map #[] 0)).heap.size = w.heap.size + 1 := by simp
  have hm : ((w.alloc (.map #[] 0)).alloc (.cells #[.pointer none, .slice none 0 0] 56)).heap[w.heap.size]? = some (.map #[] 0) := (Below.heap_alloc _ _ _ (by omega)).trans (MapKept.heap_alloc w (.map #[] 0)).1
  have hbb := (MapKept.heap_alloc (w.alloc (.map #[] 0)) (.cells #[.pointer none, .slice none 0 0] 56)).1
  rw [hsz] at hbb
  have HS : Hid (RunT w ((w.alloc (.map #[] 0)).alloc (.cells #[.pointer none, .slice none 0 0] 56)) [] (x0 :: l0) (x0 :: l0).length (textOf (x0 :: l0))) :=
    ⟨b2, .inl ⟨Nat.le_refl _, _, hbb, World.ownsRow_nil _ _ _ _, by simp [Value.ownBlock]⟩, ⟨_, _, hm, fun _ e he => by simp at he⟩, hG.below b2, hF, by rw [count_of hm]; simp, rfl⟩
  have HP : Hid (Pow w) := hp
  have HC : Hid ((textOf (x0 :: l0)).length ≤ 40000000) := Nat.le_trans (textOf_le _ hF) (by omega)
  obtain ⟨t0, u0, hv0⟩ : ∃ t u, val (x0 :: l0) = .iface t u := by cases x0 <;> exact ⟨_, _, rfl⟩
  have HV0 := Lib.hid hv0
  rw [hv0]
  generalize htot : textOf (x0 :: l0) = tot at *
  generalize (x0 :: l0).length = N at *
  clear hG hF hp hlen hm b1 b2 htot hbb hsz hv0
  go_enter_defers Tryd.func11, Tryd.ntmps11
  go_wp2
  generalize hB : w.heap.size = B at *
  have HB := Lib.hid hB
  clear hB
  go_loopw [0] (fun ev wr => ∃ x s done, ev = val (x :: s) ∧ Hid (RunT w wr done (x :: s) N tot)) (fun ev wr => N - count wr B)
  case atStart => exact ⟨x0, l0, [], HV0.out.symm, HS⟩
  case round =>
    clear HS HV0
    have a1 := is_flt
    have a2 := is_flt_oth
    have a3 := is_flt_num
    have m1 := method_numErr
    have m2 := method_othErr
    obtain ⟨x, s, done, rfl, HR⟩ := hrel
    have EN := Lib.hid (enter_new HR.out.seen HR.out.good)
    rw [HB.out] at EN
    have HN := Lib.hid HR.out.num
    have HLd := Lib.hid (show done.length ≤ 40000000 by
      have h1 := HR.out.all
      have h2 := HC.out
      rw [← h1] at h2
      simp only [List.length_append] at h2
      omega)
    cases x with
    | flt b p =>
      have hft := HR.out.fits
      have IT := Lib.hid (fun W h => Itoa_any b hft.1.1 hft.1.2 W h)
      have hil := Lib.itoa_length_le b hft.1.1 hft.1.2
      have HF2 := Lib.hid hft.2
      have ad1 := run_add_l ⟨#[98, 108, 111, 99, 107, 32]⟩ (Lib.itoa b) (by simp; omega)
      have ad2 := run_add_r ([98, 108, 111, 99, 107, 32] ++ Lib.itoa b) ⟨#[58, 32]⟩ (by simp; omega)
      have hpc : Hid (([98, 108, 111, 99, 107, 32] ++ Lib.itoa b) ++ [58, 32] = (sBlock ++ Lib.itoa b) ++ sColon) := rfl
      have hpl : (([98, 108, 111, 99, 107, 32] ++ Lib.itoa b) ++ [58, 32]).length ≤ 100 := by simp; omega
      have HA2 := Lib.hid (show (done ++ ((sBlock ++ Lib.itoa b) ++ sColon)) ++ textOf s = tot by have := HR.out.all; rw [← this]; simp [textOf])
      rw [← hpc.out] at HA2
      simp only [List.cons_append, List.nil_append] at ad1 ad2 HA2 hpl
      have WS := Lib.hid (fun W h h2 => WriteS_any (w.heap.size + 1) (w.heap.size + 1) done (98 :: 108 :: 111 :: 99 :: 107 :: 32 :: (Lib.itoa b ++ [58, 32])) W h (by have := HLd.out; omega) h2)
      rw [HB.out] at WS
      clear hil hpl hft hpc
      generalize Lib.itoa b = it at *
      simp only [val] at EN ⊢
      go_wp2_with (first
        | (go_at_call 23; (with_reducible refine EN.out.mono ?_); rintro e w1 ⟨rfl, hk1, hs1, hn1⟩; have HM := Lib.hid (HR.out.enter (by rw [HB.out]; exact hk1) (by rw [HB.out]; exact hs1) (by rw [HB.out]; exact hn1)); have hcb : w1.cell? ⟨p, 0, none⟩ = some (.int .i64 b) := (by rw [cell_of_row w1 p 0 _ _ _ HM.out.good.1]; rfl); have HP1 := Lib.hid (HP.out.later HM.out.bel); clear hk1 hs1 hn1)
        | (go_at_call 25; (with_reducible refine (IT.out _ HP1.out).mono ?_); rintro e w2 ⟨rfl, b2⟩; have HM2 := Lib.hid (HM.out.later b2); clear b2)
        | (go_at_call 24; (with_reducible refine (WS.out _ (by rw [← HB.out]; exact HM2.out.bld) (by rw [← HB.out]; exact Nat.le_of_lt HM2.out.lt)).mono ?_); rintro e w3 ⟨rfl, hb3, hl3, ho3⟩; have HM3 := Lib.hid (HM2.out.write (by rw [HB.out]; exact hb3) (by rw [HB.out]; exact hl3) (by rw [HB.out]; exact ho3)); have hce : w3.cell? ⟨p, 1, none⟩ = some (val s) := (by rw [cell_of_row w3 p 1 _ _ _ HM3.out.good.1]; rfl); clear hb3 hl3 ho3))
      go_roundw
      case rel =>
        have hne : s ≠ [] := HM3.out.good.2.2.1
        obtain ⟨x, s, rfl⟩ : ∃ x s', s = x :: s' := by
          cases s with
          | nil => exact absurd rfl hne
          | cons x s => exact ⟨x, s, rfl⟩
        exact ⟨x, s, _, rfl, HM3.out.next HF2.out HA2.out⟩
      case measure =>
        have h1 := HN.out
        have h2 := HM3.out.num
        simp only [List.length_cons, HB.out] at h1 h2
        omega
    | oth =>
      have ST := Lib.hid (fun W h h2 => String_any (w.heap.size + 1) (w.heap.size + 1) done W h h2)
      rw [HB.out] at ST
      have OE := Lib.hid (fun v W => othErr_any v W)
      have ad := run_add_r done ⟨#[111, 116, 104, 101, 114]⟩ (by have := HLd.out; simp; omega)
      have HA := Lib.hid (show done ++ sOther = tot by have := HR.out.all; simpa [textOf] using this)
      simp only [val]
      generalize val s = vs at *
      go_wp2_with (first
        | (go_at_call 22; (with_reducible refine (ST.out _ (by rw [← HB.out]; exact HR.out.bld) (by rw [← HB.out]; exact Nat.le_of_lt HR.out.lt)).mono ?_); rintro e w1 ⟨rfl, b1⟩; have H1 := Lib.hid b1; clear b1)
        | (go_at_call 80; (with_reducible refine (OE.out _ _).mono ?_); rintro e w2 ⟨rfl, b2⟩; have H2 := Lib.hid b2; clear b2))
      refine leaves_cons (f := 21) (args := #[]) (by simp) (by simp [go_sem]) ?_
      refine (idle_text _).mono ?_
      rintro e u' w'' ⟨rfl, rfl, rfl⟩
      simp [Leaves, settle, results, Tryd.results11, go_sem]
      refine ⟨by rw [← HA.out]; rfl, HR.out.bel.trans ((H1.out.mono (by have := HB.out; omega)).trans (H2.out.mono ?_))⟩
      have h1 := H1.out.size
      have h2 := HR.out.bel.size
      omega
    | num n =>
      have hft := HR.out.fits
      have ST := Lib.hid (fun W h h2 => String_any (w.heap.size + 1) (w.heap.size + 1) done W h h2)
      rw [HB.out] at ST
      have NE := Lib.hid (fun W h => numErr_any n hft.1.1 hft.1.2 W h)
      have hil := Lib.itoa_length_le n hft.1.1 hft.1.2
      have ad := run_add done (sError ++ Lib.itoa n) (by have := HLd.out; simp [sError]; omega)
      have HA := Lib.hid (show done ++ (sError ++ Lib.itoa n) = tot by have := HR.out.all; simpa [textOf] using this)
      clear hil hft
      generalize sError ++ Lib.itoa n = en at *
      have HPr := Lib.hid (HP.out.later HR.out.bel)
      simp only [val]
      go_wp2_with (first
        | (go_at_call 22; (with_reducible refine (ST.out _ (by rw [← HB.out]; exact HR.out.bld) (by rw [← HB.out]; exact Nat.le_of_lt HR.out.lt)).mono ?_); rintro e w1 ⟨rfl, b1⟩; have H1 := Lib.hid (HR.out.bel.trans (b1.mono (by have := HB.out; omega))); clear b1)
        | (go_at_call 79; (with_reducible refine (NE.out _ (HP.out.later H1.out)).mono ?_); rintro e w2 ⟨rfl, b2⟩; have H2 := Lib.hid b2; clear b2))
      refine leaves_cons (f := 21) (args := #[]) (by simp) (by simp [go_sem]) ?_
      refine (idle_text _).mono ?_
      rintro e u' w'' ⟨rfl, rfl, rfl⟩
      simp [Leaves, settle, results, Tryd.results11, go_sem]
      exact ⟨by rw [← HA.out], H1.out.trans (H2.out.mono H1.out.size)⟩
end Go.Proofs.YtjdalgnkkdfnnaaDoor
