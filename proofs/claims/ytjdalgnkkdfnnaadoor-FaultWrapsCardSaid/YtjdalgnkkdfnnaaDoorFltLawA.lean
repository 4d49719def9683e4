/-
  The walk of FaultFirst.
-/
import Derived.Test.YtjdalgnkkdfnnaaDoorFltQ
import Derived.Test.YtjdalgnkkdfnnaaDoorOpenD
import Derived.Deep.RegionHeld3
import Derived.Deep.RegionWith
import Derived.Deep.DeepFit
import Derived.Deep.DeepMust
namespace Go.Proofs.YtjdalgnkkdfnnaaDoor
open Go.RowKit
set_option linter.unusedVariables false
set_option linter.unusedSimpArgs false

/-- the law's error of blocks and a number -/
def OwnOf (f : List Int × Int) (l : List Node) : Prop := (f.2 = 0 ∧ l = []) ∨ (f.2 ≠ 0 ∧ Chain f.1 f.2 l)

theorem Own_any {A : Option Addr} {n c : Nat} {bs : List Int} (code : Int) {w : World} (hI : Ints w A n c bs) :
    Calls Tryd.prog 8 #[.agg #[.slice A n c, .int .i64 code]] w fun e w' => ∃ l, e = .returned (val l) ∧ OwnOf (bs, code) l ∧ Good w' l ∧ Below w.heap.size w w' := by
  by_cases hc : code = 0
  · subst hc
    refine (Own_nil A n c w).mono ?_
    rintro e w' ⟨rfl, hb⟩
    exact ⟨[], rfl, .inl ⟨rfl, rfl⟩, trivial, hb⟩
  · refine (Own_err hc hI).mono ?_
    rintro e w' ⟨l, rfl, h1, h2, h3⟩
    exact ⟨l, rfl, .inr ⟨hc, h1⟩, h2, h3⟩

theorem Own_val {A : Option Addr} {n c : Nat} {bs : List Int} {code : Int} (hc : code ≠ 0) {w : World} (hI : Ints w A n c bs) :
    Calls Tryd.prog 8 #[rf A n c code] w fun e w' => ∃ l t u, e = .returned (.iface t u) ∧ val l = .iface t u ∧ OwnOf (bs, code) l ∧ Good w' l ∧ Below w.heap.size w w' := by
  refine (Own_err hc hI).mono ?_
  rintro e w' ⟨l, rfl, h1, h2, h3⟩
  obtain ⟨t, u, hv⟩ : ∃ t u, val l = .iface t u := by
    have hne := h1.ne
    cases l with
    | nil => exact absurd rfl hne
    | cons x l => cases x <;> exact ⟨_, _, rfl⟩
  exact ⟨l, t, u, by rw [hv], hv, .inr ⟨hc, h1⟩, h2, h3⟩

/-- the first with a number -/
def wantOf : List (List Int × Int) → List Int × Int
  | [] => ([], 0)
  | f :: fs => if f.2 = 0 then wantOf fs else f

theorem wantOf_snoc (fs : List (List Int × Int)) (f : List Int × Int) : wantOf (fs ++ [f]) = if (wantOf fs).2 = 0 then (if f.2 = 0 then ([], 0) else f) else wantOf fs := by
  induction fs with
  | nil => simp [wantOf]
  | cons g fs ih =>
    by_cases hg : g.2 = 0
    · have e1 : wantOf (g :: fs) = wantOf fs := by simp only [wantOf, if_pos hg]
      have e2 : wantOf (g :: fs ++ [f]) = wantOf (fs ++ [f]) := by simp only [List.cons_append, wantOf, if_pos hg]
      rw [e1, e2]; exact ih
    · have e1 : wantOf (g :: fs) = g := by simp only [wantOf, if_neg hg]
      have e2 : wantOf (g :: fs ++ [f]) = g := by simp only [List.cons_append, wantOf, if_neg hg]
      rw [e1, e2, if_neg hg]
theorem wantOf_zero (fs : List (List Int × Int)) (h : (wantOf fs).2 = 0) : wantOf fs = ([], 0) := by
  induction fs with
  | nil => rfl
  | cons g fs ih =>
    simp only [wantOf] at h ⊢
    by_cases hg : g.2 = 0
    · rw [if_pos hg] at h ⊢; exact ih h
    · rw [if_neg hg] at h; exact absurd h hg

/-- errors one by one -/
inductive Owns : List (List Int × Int) → List (List Node) → Prop where
  | nil : Owns [] []
  | cons {f : List Int × Int} {l : List Node} {fs : List (List Int × Int)} {ls : List (List Node)} : OwnOf f l → Owns fs ls → Owns (f :: fs) (l :: ls)
theorem Owns.snoc {fs : List (List Int × Int)} {ls : List (List Node)} {f : List Int × Int} {l : List Node} (h : Owns fs ls) (h2 : OwnOf f l) : Owns (fs ++ [f]) (ls ++ [l]) := by
  induction h with
  | nil => exact .cons h2 .nil
  | cons h3 _ ih => exact .cons h3 ih
theorem Owns.first {fs : List (List Int × Int)} {ls : List (List Node)} (h : Owns fs ls) : OwnOf (wantOf fs) (firstOf ls) := by
  induction h with
  | nil => exact .inl ⟨rfl, rfl⟩
  | @cons f l fs ls h2 _ ih =>
    rcases h2 with ⟨h3, rfl⟩ | ⟨h3, h4⟩
    · simpa [wantOf, h3, firstOf] using ih
    · have hne := h4.ne
      cases l with
      | nil => exact absurd rfl hne
      | cons x l => simp only [wantOf, if_neg h3, firstOf]; exact .inr ⟨h3, h4⟩

/-- the law's loop -/
structure RunF (w0 wr : World) (lv : Value) (ls : List (List Node)) (fs : List (List Int × Int)) (A : Option Addr) (n c : Nat) : Prop where
  bel : Below w0.heap.size w0 wr
  own : wr.ownsRow (w0.heap.size + 1) 27 1 lv fs.length (ls.map val)
  owns : Owns fs ls
  good : ∀ l ∈ ls, Good wr l
  want : wr.heap[w0.heap.size]? = some (.cells #[.slice A n c, .int .i64 (wantOf fs).2] 24 (0, 0))
  ints : Ints w0 A n c (wantOf fs).1
  few : (wantOf fs).1.length ≤ 50
  len : ls.length = fs.length

theorem RunF.lt {w0 wr : World} {lv : Value} {ls : List (List Node)} {fs : List (List Int × Int)} {A : Option Addr} {n c : Nat} (h : RunF w0 wr lv ls fs A n c) : w0.heap.size < wr.heap.size := block_lt h.want

theorem RunF.later {w0 wr w' : World} {lv : Value} {ls : List (List Node)} {fs : List (List Int × Int)} {A : Option Addr} {n c : Nat} (h : RunF w0 wr lv ls fs A n c) (hb : Below wr.heap.size wr w') : RunF w0 w' lv ls fs A n c :=
  ⟨h.bel.trans (hb.mono h.bel.size), own_kept h.own (fun k _ h2 => hb.block k h2), h.owns, fun l hl => (h.good l hl).below hb, (hb.block _ h.lt).trans h.want, h.ints, h.few, h.len⟩
theorem RunF.errs {w0 wr : World} {A2 : Option Addr} {n2 c2 : Nat} {ls : List (List Node)} {fs : List (List Int × Int)} {A : Option Addr} {n c : Nat} (h : RunF w0 wr (.slice A2 n2 c2) ls fs A n c) : Errs wr A2 n2 c2 ls := by
  obtain ⟨A', c', hv, hc, hm⟩ := ownsRow_form h.own
  injection hv with h1 h2 h3
  subst h1 h2 h3
  exact ⟨h.len, hc, by simpa [maxLen] using hm, Row.of_own h.own⟩

/-- one more error -/
structure MidF (w0 wr : World) (lv : Value) (ls : List (List Node)) (l : List Node) (fs : List (List Int × Int)) (f : List Int × Int) (A : Option Addr) (n c : Nat) : Prop where
  bel : Below w0.heap.size w0 wr
  own : wr.ownsRow (w0.heap.size + 1) 27 1 lv (fs.length + 1) ((ls ++ [l]).map val)
  owns : Owns (fs ++ [f]) (ls ++ [l])
  good : ∀ q ∈ ls ++ [l], Good wr q
  want : wr.heap[w0.heap.size]? = some (.cells #[.slice A n c, .int .i64 (wantOf fs).2] 24 (0, 0))
  ints : Ints w0 A n c (wantOf fs).1
  few : (wantOf fs).1.length ≤ 50
  len : (ls ++ [l]).length = fs.length + 1

theorem RunF.put {w0 wr w' : World} {lv lv' : Value} {ls : List (List Node)} {l : List Node} {fs : List (List Int × Int)} {f : List Int × Int} {A : Option Addr} {n c : Nat} (h : RunF w0 wr lv ls fs A n c)
    (hl : OwnOf f l) (hG : Good wr l) (ho : w'.ownsRow (w0.heap.size + 1) 27 1 lv' (fs.length + 1) (ls.map val ++ [val l])) (hg : wr.grownBy w' lv.ownBlock) : MidF w0 w' lv' ls l fs f A n c := by
  have hap := own_apart h.own
  have hK : Keeps wr w' := fun p c e => by
    by_cases hp : lv.ownBlock = some p
    · obtain ⟨_, cur, hc⟩ := hap p hp
      rw [hc] at e
      cases e
    · exact (hg.block p (block_lt e) (fun e2 => hp e2.symm)).trans e
  refine ⟨h.bel.trans ⟨hg.os, hg.tape, hg.output, hg.size, fun i hi => hg.block i (by have := h.bel.size; omega) (fun e => by have := (hap _ e.symm).1; omega)⟩, by simpa using ho, h.owns.snoc hl, fun q hq => ?_, (hg.block _ h.lt (fun e => by have := (hap _ e.symm).1; omega)).trans h.want, h.ints, h.few, by simp [h.len]⟩
  rcases List.mem_append.1 hq with hq | hq
  · exact (h.good q hq).same hK
  · rw [List.mem_singleton] at hq
    subst hq
    exact hG.same hK

/-- what is wanted stays -/
theorem MidF.stay {w0 wr : World} {lv : Value} {ls : List (List Node)} {l : List Node} {fs : List (List Int × Int)} {f : List Int × Int} {A : Option Addr} {n c : Nat} (h : MidF w0 wr lv ls l fs f A n c) (hs : (wantOf fs).2 ≠ 0 ∨ f.2 = 0) : RunF w0 wr lv (ls ++ [l]) (fs ++ [f]) A n c := by
  have e : wantOf (fs ++ [f]) = wantOf fs := by
    rw [wantOf_snoc]
    by_cases hz : (wantOf fs).2 = 0
    · rcases hs with h1 | h1
      · exact absurd hz h1
      · rw [if_pos hz, if_pos h1, wantOf_zero fs hz]
    · rw [if_neg hz]
  exact ⟨h.bel, by simpa using h.own, h.owns, h.good, by rw [e]; exact h.want, by rw [e]; exact h.ints, by rw [e]; exact h.few, by simpa using h.len⟩

/-- what is wanted is this one -/
theorem MidF.take {w0 wr : World} {lv : Value} {ls : List (List Node)} {l : List Node} {fs : List (List Int × Int)} {f : List Int × Int} {A A2 : Option Addr} {n c n2 c2 : Nat} (h : MidF w0 wr lv ls l fs f A n c) (h1 : (wantOf fs).2 = 0) (h2 : f.2 ≠ 0) (hI : Ints w0 A2 n2 c2 f.1) (hm : n2 ≤ 50) :
    RunF w0 ((wr.setCell ⟨w0.heap.size, 0, none⟩ (.slice A2 n2 c2)).setCell ⟨w0.heap.size, 1, none⟩ (.int .i64 f.2)) lv (ls ++ [l]) (fs ++ [f]) A2 n2 c2 := by
  have e : wantOf (fs ++ [f]) = f := by rw [wantOf_snoc, if_pos h1, if_neg h2]
  have hk : ∀ k, k ≠ w0.heap.size → ((wr.setCell ⟨w0.heap.size, 0, none⟩ (.slice A2 n2 c2)).setCell ⟨w0.heap.size, 1, none⟩ (.int .i64 f.2)).heap[k]? = wr.heap[k]? := fun k hk => by
    rw [Below.heap_setCell _ _ _ _ hk, Below.heap_setCell _ _ _ _ hk]
  refine ⟨(h.bel.setCell (p := ⟨w0.heap.size, 0, none⟩) (Nat.le_refl _) _).setCell (p := ⟨w0.heap.size, 1, none⟩) (Nat.le_refl _) _, by simpa using own_kept h.own (fun k hk1 _ => hk k (by omega)), h.owns, fun q hq => (h.good q hq).same (fun p x e2 => ?_), by rw [e]; exact two_sets h.want, by rw [e]; exact hI, by rw [e, hI.len]; exact hm, by simpa using h.len⟩
  by_cases hp : p = w0.heap.size
  · subst hp; rw [h.want] at e2; cases e2
  · exact (hk p hp).trans e2

/-- the law's end: what it reads -/
structure EndF (w0 W : World) (A2 : Option Addr) (n2 c2 : Nat) (ls : List (List Node)) (A : Option Addr) (n c : Nat) (wb : List Int) (wc : Int) : Prop where
  bel : Below w0.heap.size w0 W
  errs : Errs W A2 n2 c2 ls
  good : Good W (firstOf ls)
  k0 : W.cell? ⟨w0.heap.size, 0, none⟩ = some (.slice A n c)
  k1 : W.cell? ⟨w0.heap.size, 1, none⟩ = some (.int .i64 wc)
theorem EndF.later {w0 W W' : World} {A2 : Option Addr} {n2 c2 : Nat} {ls : List (List Node)} {A : Option Addr} {n c : Nat} {wb : List Int} {wc : Int} (h : EndF w0 W A2 n2 c2 ls A n c wb wc) (hb : Below W.heap.size W W') : EndF w0 W' A2 n2 c2 ls A n c wb wc :=
  ⟨h.bel.trans (hb.mono h.bel.size), h.errs.below hb, h.good.below hb, (hb.cell (p := ⟨w0.heap.size, 0, none⟩) (cell_lt h.k0)).trans h.k0, (hb.cell (p := ⟨w0.heap.size, 1, none⟩) (cell_lt h.k1)).trans h.k1⟩

theorem firstOf_good {w : World} {ls : List (List Node)} (h : ∀ l ∈ ls, Good w l) : Good w (firstOf ls) := by
  induction ls with
  | nil => trivial
  | cons l ls ih =>
    cases l with
    | nil => exact ih (fun q hq => h q (List.mem_cons_of_mem _ hq))
    | cons x l => exact h _ (List.mem_cons_self)

theorem Told_any {f : List Int × Int} {l : List Node} (hO : OwnOf f l) (hlen : f.1.length ≤ 999999) (hz : f.2 = 0 → f.1 = []) (W : World) (hG : Good W l) (hg : ErrT W) :
    Calls Tryd.prog 10 #[val l] W fun e w' => ∃ A n c, e = .returned (rf A n c f.2) ∧ Ints w' A n c f.1 ∧ Below W.heap.size W w' := by
  rcases hO with ⟨h1, rfl⟩ | ⟨h1, h2⟩
  · refine (Told_nil W).mono ?_
    rintro e w' ⟨rfl, hb⟩
    exact ⟨none, 0, 0, by rw [h1], by rw [hz h1]; exact Ints.nil _, hb⟩
  · have hl := h2.len
    have hne := h2.ne
    have hcd := h2.code
    have hbl := h2.blocks
    cases l with
    | nil => exact absurd rfl hne
    | cons x l =>
      refine (Told_err hG hg (by omega)).mono ?_
      rintro e w' ⟨A, n, c, rfl, hI, hb⟩
      rw [hcd]
      rw [hbl] at hI
      exact ⟨A, n, c, rfl, hI, hb⟩

set_option maxRecDepth 100000 in
set_option maxHeartbeats 4000000 in
theorem first_big (A : Option Addr) (n c : Nat) (w : World) (hn : 50 < n) (hle : n ≤ 9223372036854775807) (hg : ErrT w) (hp : Pow w) :
    Calls Tryd.prog 5 #[.slice A n c] w fun e w' => e = .returned (.bool true) ∧ Below w.heap.size w w' := by
  have LV := Lib.hid (lives5_any w hg hp)
  clear hg hp
  go_enter Tryd.func5, Tryd.ntmps5
  go_wp2_with (go_at_call 7; (with_reducible refine LV.out.mono ?_); rintro e w1 ⟨rfl, hb⟩)
  go_ret
  exact ⟨rfl, hb⟩

set_option maxRecDepth 100000 in
set_option maxHeartbeats 4000000 in
theorem first_small (A : Option Addr) (n c : Nat) (fs : List (List Int × Int)) (w : World) (hF : Fts w A n c fs) (hn : n ≤ 50) (hg : ErrT w) (hp : Pow w) :
    Calls Tryd.prog 5 #[.slice A n c] w fun e w' => e = .returned (.bool true) ∧ Below w.heap.size w w' := by
  have HF := Lib.hid hF
  have HLn := Lib.hid hF.len
  have HE := Lib.hid hg
  have HP := Lib.hid hp
  clear hF hg hp
  have b0 : Below w.heap.size w (w.alloc (.cells #[.slice none 0 0, .int .i64 0] 24)) := (Below.refl _ _).alloc (Nat.le_refl _) _
  have HS : Hid (RunF w (w.alloc (.cells #[.slice none 0 0, .int .i64 0] 24)) (.slice none 0 0) [] (fs.take 0) none 0 0) :=
    ⟨b0, World.ownsRow_nil _ _ _ _, .nil, (fun l hl => by cases hl), (MapKept.heap_alloc w _).1, Ints.nil _, by simp [wantOf], rfl⟩
  clear b0
  go_enter Tryd.func5, Tryd.ntmps5
  go_wp2
  go_loopw [3, 5] (fun lv i wr => ∃ (k : Nat) (ls : List (List Node)) (Aw : Option Addr) (nw cw : Nat), k ≤ n ∧ i = .int .i64 k ∧ Hid (RunF w wr lv ls (fs.take k) Aw nw cw)) (fun _ i _ => n - (intOf i).toNat)
  case atStart => exact ⟨0, [], none, 0, 0, by omega, rfl, HS⟩
  case round =>
    clear HS
    obtain ⟨k, ls, Aw, nw, cw, hk, rfl, HR⟩ := hrel
    by_cases hlt : k < n
    · have hkl : k < fs.length := by have := HLn.out; omega
      obtain ⟨b, off, rfl, hb, hcell⟩ := HF.out.lit (by omega)
      obtain ⟨A', m, c', h1, h2, hI⟩ := hcell k hkl
      have htk : fs.take (k + 1) = fs.take k ++ [fs[k]] := List.take_succ_eq_append_getElem hkl
      have HTk : Hid ((fs.take k).length = k) := by rw [List.length_take]; exact Nat.min_eq_left (by omega)
      have hI0 := hI
      have hle := hI.le
      have HI0 := Lib.hid hI0
      clear hI0
      have HTake := Lib.hid htk
      clear htk hcell
      generalize fs[k] = f at *
      obtain ⟨bs, code⟩ := f
      have HC0 := Lib.hid (fun W (hB : Below w.heap.size w W) => (hB.cell (p := ⟨b, off + k * 2, none⟩) hb).trans h1)
      have HC1 := Lib.hid (fun W (hB : Below w.heap.size w W) => (hB.cell (p := ⟨b, off + (k * 2 + 1), none⟩) hb).trans h2)
      have HI := Lib.hid (hI.below HR.out.bel)
      have n0 := HC0.out wr HR.out.bel
      have n1 := HC1.out wr HR.out.bel
      have n2 : wr.cell? ⟨b, off + k * 2 + 1, none⟩ = some (.int .i64 code) := by rw [Nat.add_assoc]; exact n1
      clear hI h1 h2
      by_cases hm : 50 < m
      · have LV := Lib.hid (lives5_any wr (HE.out.later HR.out.bel) (HP.out.later HR.out.bel))
        have HBl := Lib.hid HR.out.bel
        clear HR
        go_wp2_with (go_at_call 7; (with_reducible refine LV.out.mono ?_); rintro e w1 ⟨rfl, hb1⟩)
        go_ret
        exact ⟨rfl, HBl.out.trans (hb1.mono HBl.out.size)⟩
      · have hm2 : m ≤ 50 := by omega
        clear hm
        obtain ⟨wc, hwc⟩ : ∃ x, x = (wantOf (fs.take k)).2 := ⟨_, rfl⟩
        have HWC := Lib.hid hwc
        clear hwc
        by_cases hc : code = 0
        · subst hc
          have OW := Lib.hid (fun W (h : Ints W A' m c' bs) => Own_nil A' m c' W)
          simp only [rf] at OW
          go_wp2_with (first
            | (go_at_call 8; (with_reducible refine (OW.out _ HI.out).mono ?_); rintro e w1 ⟨rfl, hb1⟩; have HR1 := Lib.hid (HR.out.later hb1); clear hb1)
            | (at_builtin; go_loud (refine wpList_append_newG w1 rfl (.tmp 25) (.tmp 31) 39 rfl (w.heap.size + 1) 27 27 .nilIface 16 Tryd.underlying39 info_err rfl u3 (fs.take k).length (ls.map val) rfl (Lib.hid HR1.out.own) HR1.out.lt [.nilIface] 1 1 rfl rfl (by simp [Value.oneCell']) (by have := HTk.out; omega) (by omega) ?_; intro v2 w2 ho2 hg2; refine Hid.out ?_)))

          have HM := Lib.hid (HR1.out.put (l := []) (f := (bs, 0)) (.inl ⟨rfl, rfl⟩) trivial (by skip; exact ho2.out) hg2.out)
          have k0 : w2.cell? ⟨w.heap.size, 0, none⟩ = some (.slice Aw nw cw) := (by rw [cell_of_row w2 w.heap.size 0 _ _ _ HM.out.want]; rfl)
          have k1 : w2.cell? ⟨w.heap.size, 1, none⟩ = some (.int .i64 wc) := (by rw [cell_of_row w2 w.heap.size 1 _ _ _ HM.out.want, HWC.out]; rfl)
          have f0 := Lib.frozen_of_heap HM.out.want 0
          have f1 := Lib.frozen_of_heap HM.out.want 1
          have m0 := HC0.out w2 HM.out.bel
          have m1 := HC1.out w2 HM.out.bel
          have m2 : w2.cell? ⟨b, off + k * 2 + 1, none⟩ = some (.int .i64 0) := (by rw [Nat.add_assoc]; exact m1)
          clear ho2 hg2
          refine Lib.hid ?_
          go_wp2
          all_goals go_roundw
          case rel => exact ⟨k + 1, ls ++ [[]], Aw, nw, cw, by omega, by go_num, by rw [HTake.out]; exact HM.out.stay (.inr rfl)⟩
          case measure => simp only [intOf]; omega
          case rel => exact ⟨k + 1, ls ++ [[]], Aw, nw, cw, by omega, by go_num, by rw [HTake.out]; exact HM.out.stay (.inr rfl)⟩
          case measure => simp only [intOf]; omega
        · have OW := Lib.hid (fun W (h : Ints W A' m c' bs) => Own_val hc h)
          simp only [rf] at OW
          have hcb : (code == 0) = false := by simpa using hc
          have HCn := Lib.hid hc
          clear hc
          by_cases hw : wc = 0
          · subst hw
            go_wp2_with (first
              | (go_at_call 8; (with_reducible refine (OW.out _ HI.out).mono ?_); rintro e w1 ⟨l, tv, uv, rfl, hv, hO, hG, hb1⟩; have HR1 := Lib.hid (HR.out.later hb1); have HV := Lib.hid hv; have HO := Lib.hid hO; have HG := Lib.hid hG; clear hb1 hv hO hG)
              | (at_builtin; go_loud (refine wpList_append_newG w1 rfl (.tmp 25) (.tmp 31) 39 rfl (w.heap.size + 1) 27 27 .nilIface 16 Tryd.underlying39 info_err rfl u3 (fs.take k).length (ls.map val) rfl (Lib.hid HR1.out.own) HR1.out.lt [.iface tv uv] 1 1 rfl rfl (by simp [Value.oneCell']) (by have := HTk.out; omega) (by omega) ?_; intro v2 w2 ho2 hg2; refine Hid.out ?_)))
            have HM := Lib.hid (HR1.out.put (l := l) (f := (bs, code)) HO.out HG.out (by rw [HV.out]; exact ho2.out) hg2.out)
            have k0 : w2.cell? ⟨w.heap.size, 0, none⟩ = some (.slice Aw nw cw) := (by rw [cell_of_row w2 w.heap.size 0 _ _ _ HM.out.want]; rfl)
            have k1 : w2.cell? ⟨w.heap.size, 1, none⟩ = some (.int .i64 0) := (by rw [cell_of_row w2 w.heap.size 1 _ _ _ HM.out.want, HWC.out]; rfl)
            have f0 := Lib.frozen_of_heap HM.out.want 0
            have f1 := Lib.frozen_of_heap HM.out.want 1
            have m0 := HC0.out w2 HM.out.bel
            have m1 := HC1.out w2 HM.out.bel
            have m2 : w2.cell? ⟨b, off + k * 2 + 1, none⟩ = some (.int .i64 code) := (by rw [Nat.add_assoc]; exact m1)
            clear ho2 hg2
            refine Lib.hid ?_
            go_wp2
            go_roundw
            case rel => exact ⟨k + 1, ls ++ [l], A', m, c', by omega, by go_num, by rw [HTake.out]; exact HM.out.take HWC.out.symm HCn.out HI0.out hm2⟩
            case measure => simp only [intOf]; omega
          · have hwb : (wc == 0) = false := by simpa using hw
            have HWn := Lib.hid hw
            clear hw
            go_wp2_with (first
              | (go_at_call 8; (with_reducible refine (OW.out _ HI.out).mono ?_); rintro e w1 ⟨l, tv, uv, rfl, hv, hO, hG, hb1⟩; have HR1 := Lib.hid (HR.out.later hb1); have HV := Lib.hid hv; have HO := Lib.hid hO; have HG := Lib.hid hG; clear hb1 hv hO hG)
              | (at_builtin; go_loud (refine wpList_append_newG w1 rfl (.tmp 25) (.tmp 31) 39 rfl (w.heap.size + 1) 27 27 .nilIface 16 Tryd.underlying39 info_err rfl u3 (fs.take k).length (ls.map val) rfl (Lib.hid HR1.out.own) HR1.out.lt [.iface tv uv] 1 1 rfl rfl (by simp [Value.oneCell']) (by have := HTk.out; omega) (by omega) ?_; intro v2 w2 ho2 hg2; refine Hid.out ?_)))
            have HM := Lib.hid (HR1.out.put (l := l) (f := (bs, code)) HO.out HG.out (by rw [HV.out]; exact ho2.out) hg2.out)
            have k0 : w2.cell? ⟨w.heap.size, 0, none⟩ = some (.slice Aw nw cw) := (by rw [cell_of_row w2 w.heap.size 0 _ _ _ HM.out.want]; rfl)
            have k1 : w2.cell? ⟨w.heap.size, 1, none⟩ = some (.int .i64 wc) := (by rw [cell_of_row w2 w.heap.size 1 _ _ _ HM.out.want, HWC.out]; rfl)
            have f0 := Lib.frozen_of_heap HM.out.want 0
            have f1 := Lib.frozen_of_heap HM.out.want 1
            have m0 := HC0.out w2 HM.out.bel
            have m1 := HC1.out w2 HM.out.bel
            have m2 : w2.cell? ⟨b, off + k * 2 + 1, none⟩ = some (.int .i64 code) := (by rw [Nat.add_assoc]; exact m1)
            clear ho2 hg2
            refine Lib.hid ?_
            go_wp2
            go_roundw
            case rel => exact ⟨k + 1, ls ++ [l], Aw, nw, cw, by omega, by go_num, by rw [HTake.out]; exact HM.out.stay (.inl (by rw [← HWC.out]; exact HWn.out))⟩
            case measure => simp only [intOf]; omega
    · obtain rfl : k = n := by omega
      have htake : fs.take k = fs := List.take_of_length_le (by have := HLn.out; omega)
      rw [htake] at HR
      clear htake
      obtain ⟨A2, c2, rfl, hc2, hm2⟩ := ownsRow_form HR.out.own
      have HN : Hid (EndF w wr A2 fs.length c2 ls Aw nw cw (wantOf fs).1 (wantOf fs).2) :=
        ⟨HR.out.bel, HR.out.errs, firstOf_good HR.out.good, by rw [cell_of_row wr w.heap.size 0 _ _ _ HR.out.want]; rfl, by rw [cell_of_row wr w.heap.size 1 _ _ _ HR.out.want]; rfl⟩
      have hO := HR.out.owns.first
      have HIw := Lib.hid HR.out.ints
      have hz := wantOf_zero fs
      have hbound : (wantOf fs).1.length ≤ 999999 := Nat.le_trans HR.out.few (by omega)
      clear HR
      generalize hwf : wantOf fs = wf at *
      obtain ⟨wb, wc⟩ := wf
      have hNd : EndF w wr.drew A2 fs.length c2 ls Aw nw cw wb wc := HN.out.later ((Below.refl _ _).drew)
      have FI : Hid (∀ W, EndF w W A2 fs.length c2 ls Aw nw cw wb wc → Calls Tryd.prog 16 #[.slice A2 fs.length c2] W fun e w' => e = .returned (val (firstOf ls)) ∧ W = w') := fun W hW => First_any hW.errs
      have FN : Hid (∀ W, Calls Tryd.prog 16 #[.slice none 0 0] W fun e w' => e = .returned .nilIface ∧ W = w') := fun W => First_any (ls := []) ⟨rfl, Nat.le_refl _, Nat.zero_le _, Row.nil _ _⟩
      have TO : Hid (∀ W, EndF w W A2 fs.length c2 ls Aw nw cw wb wc → Calls Tryd.prog 10 #[val (firstOf ls)] W fun e w' => ∃ A n c, e = .returned (rf A n c wc) ∧ Ints w' A n c wb ∧ EndF w w' A2 fs.length c2 ls Aw nw cw wb wc) := fun W hW => by
        refine (Told_any hO hbound (fun h => by have := hz h; simpa using congrArg Prod.fst this) W hW.good (HE.out.later hW.bel)).mono ?_
        rintro e w' ⟨A, n, c, rfl, hI, hb⟩
        exact ⟨A, n, c, rfl, hI, hW.later hb⟩
      have SM : Hid (∀ W A n c, EndF w W A2 fs.length c2 ls Aw nw cw wb wc → Ints W A n c wb → Calls Tryd.prog 9 #[rf A n c wc, .agg #[.slice Aw nw cw, .int .i64 wc]] W fun e w' => e = .returned (.bool true) ∧ EndF w w' A2 fs.length c2 ls Aw nw cw wb wc) := fun W A n c hW hI => by
        refine (Flt_same wc hI (HIw.out.below hW.bel)).mono ?_
        rintro e w' ⟨rfl, hb⟩
        exact ⟨rfl, hW.later hb⟩
      have LV : Hid (∀ W, EndF w W A2 fs.length c2 ls Aw nw cw wb wc → Calls Tryd.prog 7 #[] W fun e w' => e = .returned (.bool true) ∧ EndF w w' A2 fs.length c2 ls Aw nw cw wb wc) := fun W hW => by
        refine (lives5_any W (HE.out.later hW.bel) (HP.out.later hW.bel)).mono ?_
        rintro e w' ⟨rfl, hb⟩
        exact ⟨rfl, hW.later hb⟩
      have hk0 := hNd.k0
      have hk1 := hNd.k1
      clear HN hO HIw hz hbound hwf
      generalize val (firstOf ls) = ve at *
      generalize fs.length = nl at *
      go_wp2
      go_region_held3 (fun W => W.cell? ⟨w.heap.size, 0, none⟩ = some (.slice Aw nw cw) ∧ W.cell? ⟨w.heap.size, 1, none⟩ = some (.int .i64 wc))
        (first | exact ⟨hk0, hk1⟩ | exact ⟨hj0, hj1⟩ | exact ⟨hi0, hi1⟩)
        (first
        | (go_at_call 16; first
            | ((with_reducible refine (FI.out _ (by assumption)).mono ?_); rintro e w' ⟨rfl, rfl⟩)
            | ((with_reducible refine (FN.out _).mono ?_); rintro e w' ⟨rfl, rfl⟩))
        | (go_at_call 10; (with_reducible refine (TO.out _ (by assumption)).mono ?_); rintro e w5 ⟨At, nt, ct, rfl, hIt, hN5⟩; have hj0 := hN5.k0; have hj1 := hN5.k1)
        | (go_at_call 9; (with_reducible refine (SM.out _ _ _ _ hN5 hIt).mono ?_); rintro e w6 ⟨rfl, hN6⟩; have hi0 := hN6.k0; have hi1 := hN6.k1)
        | (go_at_call 7; (with_reducible refine (LV.out _ hN6).mono ?_); rintro e w7 ⟨rfl, hN7⟩; have hi0 := hN7.k0; have hi1 := hN7.k1))
      all_goals go_wp2
      all_goals go_ret
      all_goals exact ⟨rfl, hN7.bel⟩

theorem first_walk (A : Option Addr) (n c : Nat) (fs : List (List Int × Int)) (w : World) (hF : Fts w A n c fs) (_hb : ∀ s ∈ fs, (∀ x ∈ s.1, -9223372036854775808 ≤ x ∧ x ≤ 9223372036854775807) ∧ (-9223372036854775808 ≤ s.2 ∧ s.2 ≤ 9223372036854775807)) (hg : ErrT w) (hp : Pow w) :
    Calls Tryd.prog 5 #[.slice A n c] w fun e w' => e = .returned (.bool true) ∧ Below w.heap.size w w' := by
  by_cases hn : n ≤ 50
  · exact first_small A n c fs w hF hn hg hp
  · exact first_big A n c w (by omega) (Nat.le_trans hF.cap hF.most) hg hp
end Go.Proofs.YtjdalgnkkdfnnaaDoor
