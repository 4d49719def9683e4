/-
  Layer 13: Child.
-/
import Derived.Test.YtkodddklomegfaaSpnD
namespace Go.Proofs.Ytkodddklomegfaa
open Go.RowKit Go.Shelf
set_option linter.unusedVariables false
set_option linter.unusedSimpArgs false
attribute [local go_sem] Oper.semAt_some

theorem load_one13 {P : Program} {w : World} {g : Nat} {ty : TypeId} {v : Value} (hc : w.cell? ⟨g, 0, none⟩ = some v) (hu : P.underlying ty = some (.int .i64)) : (loadVar ty ⟨g, 0, none⟩).run P w = .ok v w := by
  have hagg : (isAgg ty).run P w = .ok false w := by
    unfold isAgg
    rw [Sem.run_bind, run_underlying hu w]
    rfl
  simp [loadVar, Sem.run_bind, hagg, go_sem, hc]

theorem res2_13 {P : Program} {fn : Func} {p q : Tmp} {t1 t2 : TypeId} (h : fn.results = #[.cell p t1, .cell q t2]) (tmps : Array Value) (w : World) {a b : Addr} {v u : Value}
    (hp : tmps.getD p undef = .pointer (some a)) (hq : tmps.getD q undef = .pointer (some b)) (h1 : (loadVar t1 a).run P w = .ok v w) (h2 : (loadVar t2 b).run P w = .ok u w) : (results fn tmps).run P w = .ok (.tuple #[v, u]) w := by
  have hp' : tmps[p]?.getD undef = .pointer (some a) := by simpa using hp
  have hq' : tmps[q]?.getD undef = .pointer (some b) := by simpa using hq
  simp [results, h, hp', hq', asAddr, h1, h2, Result.andThen, Sem.run_bind]

theorem boxed_other13 {W : World} {B q : Nat} {t : TypeId} {v : Value} (h : Boxed W B t v) (hne : B ≠ q) (j : Nat) (u : Value) : Boxed (W.setCell ⟨q, j, none⟩ u) B t v := (heap_setCell_other _ _ B _ hne).trans h

/-- Child's own variables: the span, the index, the two results -/
structure Chd13 (w W : World) (lo hi i a b e : Int) : Prop where
  s : SpnAt W w.heap.size lo hi
  ix : Boxed W (w.heap.size + 1) 3 (.int .i64 i)
  res : SpnAt W (w.heap.size + 2) a b
  err : Boxed W (w.heap.size + 3) 28 (.int .i64 e)
  bel : Below w.heap.size w W
theorem Chd13.later {w W W' : World} {lo hi i a b e : Int} (h : Chd13 w W lo hi i a b e) (hb : Below W.heap.size W W') : Chd13 w W' lo hi i a b e :=
  ⟨h.s.later hb, (hb.block _ h.ix.lt).trans h.ix, h.res.later hb, (hb.block _ h.err.lt).trans h.err, h.bel.trans (hb.mono h.bel.size)⟩
theorem Chd13.start (w : World) (lo hi i : Int) : Chd13 w ((((w.alloc (.cells #[.int .i64 lo, .int .i64 hi] 23)).alloc (.cells #[.int .i64 i] 3)).alloc (.cells #[.int .i64 0, .int .i64 0] 23)).alloc (.cells #[.int .i64 0] 28)) lo hi i 0 0 0 := by
  have b1 := (Below.refl w.heap.size w).alloc (Nat.le_refl _) (.cells #[.int .i64 lo, .int .i64 hi] 23)
  have h1 := SpnAt.new w lo hi
  generalize hw1 : w.alloc (.cells #[.int .i64 lo, .int .i64 hi] 23) = w1 at *
  have s1 : w1.heap.size = w.heap.size + 1 := by rw [← hw1]; simp
  have b2 := (Below.refl w1.heap.size w1).alloc (Nat.le_refl _) (.cells #[.int .i64 i] 3)
  have h2 := Boxed.new w1 3 (.int .i64 i)
  generalize hw2 : w1.alloc (.cells #[.int .i64 i] 3) = w2 at *
  have s2 : w2.heap.size = w.heap.size + 2 := by rw [← hw2]; simp [s1]
  have b3 := (Below.refl w2.heap.size w2).alloc (Nat.le_refl _) (.cells #[.int .i64 0, .int .i64 0] 23)
  have h3 := SpnAt.new w2 0 0
  generalize hw3 : w2.alloc (.cells #[.int .i64 0, .int .i64 0] 23) = w3 at *
  have s3 : w3.heap.size = w.heap.size + 3 := by rw [← hw3]; simp [s2]
  have b4 := (Below.refl w3.heap.size w3).alloc (Nat.le_refl _) (.cells #[.int .i64 0] 28)
  have h4 := Boxed.new w3 28 (.int .i64 0)
  generalize hw4 : w3.alloc (.cells #[.int .i64 0] 28) = w4 at *
  rw [s1] at h2; rw [s2] at h3; rw [s3] at h4
  exact ⟨((h1.later b2).later b3).later b4, (b4.block _ (by omega)).trans ((b3.block _ (by omega)).trans h2), h3.later b4, h4, ((b1.trans (b2.mono (by omega))).trans (b3.mono (by omega))).trans (b4.mono (by omega))⟩
theorem Chd13.store {w W : World} {lo hi i a b e : Int} (h : Chd13 w W lo hi i a b e) (a' b' e' : Int) :
    Chd13 w (((W.setCell ⟨w.heap.size + 2, 0, none⟩ (.int .i64 a')).setCell ⟨w.heap.size + 2, 1, none⟩ (.int .i64 b')).setCell ⟨w.heap.size + 3, 0, none⟩ (.int .i64 e')) lo hi i a' b' e' := by
  refine ⟨((h.s.other (by omega) _ _).other (by omega) _ _).other (by omega) _ _, boxed_other13 (boxed_other13 (boxed_other13 h.ix (by omega) _ _) (by omega) _ _) (by omega) _ _, (h.res.set a' b').other (by omega) _ _, Boxed.set _ (boxed_other13 (boxed_other13 h.err (by omega) _ _) (by omega) _ _), ?_⟩
  exact ((h.bel.setCell (p := ⟨w.heap.size + 2, 0, none⟩) (by simp) _).setCell (p := ⟨w.heap.size + 2, 1, none⟩) (by simp) _).setCell (p := ⟨w.heap.size + 3, 0, none⟩) (by simp) _
theorem Chd13.facts {w W : World} {lo hi i a b e : Int} (h : Chd13 w W lo hi i a b e) :
    (W.cell? ⟨w.heap.size, 0, none⟩ = some (.int .i64 lo) ∧ W.cell? ⟨w.heap.size, 1, none⟩ = some (.int .i64 hi) ∧ W.cell? ⟨w.heap.size + 1, 0, none⟩ = some (.int .i64 i)) ∧
    (W.cell? ⟨w.heap.size + 2, 0, none⟩ = some (.int .i64 a) ∧ W.cell? ⟨w.heap.size + 2, 1, none⟩ = some (.int .i64 b) ∧ W.frozen? ⟨w.heap.size + 2, 0, none⟩ = false ∧ W.frozen? ⟨w.heap.size + 2, 1, none⟩ = false) ∧
    W.cell? ⟨w.heap.size + 3, 0, none⟩ = some (.int .i64 e) ∧ W.frozen? ⟨w.heap.size + 3, 0, none⟩ = false :=
  ⟨⟨h.s.c0, h.s.c1, h.ix.cell⟩, ⟨h.res.c0, h.res.c1, h.res.f0 0, h.res.f0 1⟩, h.err.cell, h.err.frozen⟩

set_option maxRecDepth 100000 in
set_option maxHeartbeats 1600000 in
theorem Child_bad13 {A : Option Addr} {n c : Nat} {L : List Int} (lo hi i : Int) (w : World) (h : Ints w A n c L) (hf : fit13 lo hi L ≠ 0) :
    Calls Try.prog 12 #[spnV lo hi, .slice A n c, .int .i64 i] w fun e w' => e = .returned (.tuple #[spnV 0 0, .int .i64 (fit13 lo hi L)]) ∧ Below w.heap.size w w' := by
  have hS := Chd13.start w lo hi i
  have FT := Lib.hid (Fits_any13 lo hi _ (h.below hS.bel))
  obtain ⟨⟨a0, a1, a2⟩, ⟨a3, a4, a5, a6⟩, a7, a8⟩ := hS.facts
  have HS := Lib.hid hS
  generalize fit13 lo hi L = f at *
  have hne : (f != 0) = true := by simpa using hf
  clear h hS hf
  go_enter Try.func12, Try.ntmps12
  go_wp2_with (go_at_call 10; (with_reducible refine (FT.out).mono ?_); rintro e w1 ⟨rfl, hb1⟩; have hS1 := HS.out.later hb1; obtain ⟨⟨b0, b1, b2⟩, ⟨b3, b4, b5, b6⟩, b7, b8⟩ := hS1.facts; have HS1 := Lib.hid hS1; clear hS1 hb1 a0 a1 a2 a3 a4 a5 a6 a7 a8)
  have hE := HS1.out.store 0 0 f
  refine bodyPost_ret (res2_13 Try.results12 _ _ (a := ⟨w.heap.size + 2, 0, none⟩) (b := ⟨w.heap.size + 3, 0, none⟩) rfl rfl hE.res.load (load_one13 hE.err.cell Try.underlying28)) rfl ?_
  exact ⟨rfl, hE.bel⟩

theorem Chd13.own (w : World) (lo hi i : Int) {β : Type} (f : β → Int × Int × Int) (C : Nat) (hC : w.heap.size ≤ C) : OwnFrom C (fun (s : β) W => Chd13 w W lo hi i (f s).1 (f s).2.1 (f s).2.2) := fun s X Y row hs hg hr =>
  ⟨spnAt_own _ (fun _ : Unit => (lo, hi)) () X Y row hs.s hg (fun r e => (hr r e).2), boxed_own _ _ (fun _ : Unit => Value.int .i64 i) () X Y row hs.ix hg (fun r e => (hr r e).2), spnAt_own _ (fun _ : Unit => ((f s).1, (f s).2.1)) () X Y row hs.res hg (fun r e => (hr r e).2),
    boxed_own _ _ (fun _ : Unit => Value.int .i64 (f s).2.2) () X Y row hs.err hg (fun r e => (hr r e).2), ownFrom_below (β := Unit) (w₀ := w) (Nat.le_refl _) hC () X Y row hs.bel hg hr⟩

theorem Chd13.put {w W : World} {lo hi i a b e : Int} (h : Chd13 w W lo hi i a b e) {D : Nat} {o : Obj} (o' : Obj) (hD : w.heap.size ≤ D) (hl : W.heap[D]? = some o) (hc : o.isCells = false) : Chd13 w (W.putObj D o') lo hi i a b e :=
  OwnFrom.putObj (Chd13.own w lo hi i (fun _ : Unit => (a, b, e)) w.heap.size (Nat.le_refl _)) (s := ()) o' h hD hl hc

/-- Child's own variables store their results behind a return: the loop's -/
theorem Chd13.kp {w W : World} {lo hi i a b e : Int} (h : Chd13 w W lo hi i a b e) (a' b' e' : Int) (C : Nat) :
    KeepsFrom C W (((W.setCell ⟨w.heap.size + 2, 0, none⟩ (.int .i64 a')).setCell ⟨w.heap.size + 2, 1, none⟩ (.int .i64 b')).setCell ⟨w.heap.size + 3, 0, none⟩ (.int .i64 e')) :=
  (((KeepsOthers.setCell _ _ _).trans (KeepsOthers.setCell _ _ _)).trans (KeepsOthers.setCell _ _ _)).from _

set_option maxRecDepth 100000 in
set_option maxHeartbeats 2000000 in
theorem Child_good13 {A : Option Addr} {n c : Nat} {L : List Int} (lo hi i : Int) (w : World) (h : Ints w A n c L) (hf : fit13 lo hi L = 0) :
    Calls Try.prog 12 #[spnV lo hi, .slice A n c, .int .i64 i] w fun e w' => e = .returned (.tuple #[spnV (ch13 lo hi L i).1 (ch13 lo hi L i).2, .int .i64 (chE13 lo hi L i)]) ∧ Below w.heap.size w w' := by
  obtain ⟨ra, hra⟩ : ∃ ra, (ch13 lo hi L i).1 = ra := ⟨_, rfl⟩
  obtain ⟨rb, hrb⟩ : ∃ rb, (ch13 lo hi L i).2 = rb := ⟨_, rfl⟩
  obtain ⟨re, hre⟩ : ∃ re, chE13 lo hi L i = re := ⟨_, rfl⟩
  rw [hra, hrb, hre]
  have HR := Lib.hid (And.intro hra (And.intro hrb hre))
  clear hra hrb hre
  have hS := Chd13.start w lo hi i
  have FT := Lib.hid (Fits_any13 lo hi _ (h.below hS.bel))
  rw [hf] at FT
  obtain ⟨⟨a0, a1, a2⟩, ⟨a3, a4, a5, a6⟩, a7, a8⟩ := hS.facts
  have HS := Lib.hid hS
  have HI := Lib.hid h
  have hcap := h.cap
  have hmost := h.most
  have HF := Lib.hid hf
  clear h hS hf
  refine (callsIn_wide (n := 2)).1 ?_
  refine callsIn_of_wp_marks Try.func12 rfl trivial ?_ rfl
  simp only [Try.ntmps12, List.size_toArray, List.length_cons, List.length_nil, Nat.reduceAdd, Nat.reduceSub, Array.replicate_succ, Array.replicate_zero, List.push_toArray, List.append_toArray, List.nil_append, List.cons_append]
  gi_wp2_with (first
    | (refine ⟨trivial, ?_⟩; gi_at_call 10; refine (callsIn_wide.2 FT.out).mono ?_; rintro e w1 ⟨rfl, hb1⟩; have hS1 := HS.out.later hb1; obtain ⟨⟨b0, b1, b2⟩, ⟨b3, b4, b5, b6⟩, b7, b8⟩ := hS1.facts; have HS1 := Lib.hid hS1; clear hS1 hb1 a0 a1 a2 a3 a4 a5 a6 a7 a8)
    | (refine ⟨trivial, ?_⟩; gi_at_call 17; refine (callsIn_wide.2 (children_any13 _ _ _ _ _ _)).mono ?_; rintro e w' ⟨rfl, rfl⟩))
  clear FT HS b0 b1 b2 b3 b4 b5 b6 b7 b8
  obtain ⟨B, hB⟩ : ∃ B, B = w1.heap.size := ⟨_, rfl⟩
  have hBl : w.heap.size + 4 ≤ B := by have := HS1.out.err.lt; omega
  obtain ⟨W0, hW0⟩ : ∃ W0, ((w1.alloc (.cells #[.int .i64 lo, .int .i64 hi] 23)).alloc (.cells #[.slice A n c] 24)) = W0 := ⟨_, rfl⟩
  have hsz : W0.heap.size = B + 2 := by rw [← hW0, hB]; simp
  have bS : SpnAt W0 B lo hi := by
    have := SpnAt.new w1 lo hi
    rw [← hW0, hB]; exact this.later ((Below.refl _ _).alloc (Nat.le_refl _) _)
  have bC : Boxed W0 (B + 1) 24 (.slice A n c) := by
    have := Boxed.new (w1.alloc (.cells #[.int .i64 lo, .int .i64 hi] 23)) 24 (.slice A n c)
    rw [World.size_alloc] at this
    rw [← hW0, hB]; exact this
  have hS0 : Chd13 w W0 lo hi i 0 0 0 := by
    rw [← hW0]; exact HS1.out.later (((Below.refl _ _).alloc (Nat.le_refl _) _).alloc (by simp) _)
  simp only [hW0]
  simp only [← hB]
  clear hW0 HS1 hB
  have hst := child_stops (B + 1) B (w.heap.size + 1) A n c L lo hi W0 (by omega) bC bS (HI.out.below hS0.bel)
    (fun h0 ad e => by
      obtain ⟨b, off, e2, hl, _⟩ := HI.out.row.lit (by rw [i64s_length]; exact h0)
      rw [e] at e2
      cases e2; exact Nat.lt_succ_of_lt hl)
  have HST := Lib.hid hst
  clear hst
  refine wpIn_rangeFunc_ownH rfl (Nat.le_succ 1) (gf := 18) (lb := #[.pointer (some ⟨B + 1, 0, none⟩), .pointer (some ⟨B, 0, none⟩)]) rfl trivial (enters_of Try.func18 (by kernel_rfl) rfl)
    HST.out KpS13.trans (KpS13.put (by omega) (by omega) (by omega)) (Below.refl _ _) (fun _ => rfl)
    (fun pre W => (∀ x ∈ pre, ((x : Nat) : Int) ≠ i) ∧ (Chd13 w W lo hi i 0 0 0 ∧ B + 2 ≤ W.heap.size))
    (fun cd pre W => cd = .ret ∧ ∃ x ∈ pre, ((x : Nat) : Int) = i ∧ Chd13 w W lo hi i (L.getD x 0) (end13 hi L x) 0)
    (OwnFrom.and (ownFrom_pure _ _) (OwnFrom.and (Chd13.own w lo hi i (fun _ => (0, 0, 0)) _ (by omega)) (fun s X Y row hs hg hr => Nat.le_trans hs hg.size)))
    (fun cd s X Y row hs hg hr => by
      obtain ⟨e1, x, e2, e3, e4⟩ := hs
      exact ⟨e1, x, e2, e3, Chd13.own w lo hi i (fun _ : Unit => (L.getD x 0, end13 hi L x, 0)) _ (by omega) () X Y row e4 hg hr⟩)
    ⟨fun x hx => (by cases hx), hS0, by omega⟩
    (fun x a' W => ∃ Bx, SpnAt W Bx (L.getD x 0) (end13 hi L x) ∧ a' = { tmps := #[spnV lo hi, .slice A n c, .int .i64 i, .pointer (some ⟨w.heap.size, 0, none⟩), undef, .pointer (some ⟨w.heap.size + 1, 0, none⟩), .pointer (some ⟨w.heap.size + 2, 0, none⟩), .pointer (some ⟨w.heap.size + 3, 0, none⟩), .int .i64 0, .int .i64 (x : Int), .pointer (some ⟨Bx, 0, none⟩), .agg #[.int .i64 lo, .int .i64 hi], .slice A n c, .int .i64 0, .int .i64 0, .bool false, undef, undef, .agg #[.int .i64 lo, .int .i64 hi], .slice A n c, .func (.func 18) #[] #[.pointer (some ⟨B + 1, 0, none⟩), .pointer (some ⟨B, 0, none⟩)], .int .i64 (x : Int), .agg #[.int .i64 (L.getD x 0), .int .i64 (end13 hi L x)], undef, undef, undef, undef, undef], defers := [] })
    (fun x a' s X Y row hs hg hr => by
      obtain ⟨Bx, e1, e2⟩ := hs
      exact ⟨Bx, spnAt_own Bx (fun _ : Unit => (L.getD x 0, end13 hi L x)) () X Y row e1 hg (fun r e => (hr r e).2), e2⟩) ?assign ?body ?done ?stop
  case assign =>
    rintro l pre x W K ⟨hp, hbb, hbs⟩ hK
    have hal := (Below.refl W.heap.size W).alloc (Nat.le_refl _) (.cells #[.int .i64 (L.getD x 0), .int .i64 (end13 hi L x)] 23)
    have hfin := hK { tmps := #[spnV lo hi, .slice A n c, .int .i64 i, .pointer (some ⟨w.heap.size, 0, none⟩), undef, .pointer (some ⟨w.heap.size + 1, 0, none⟩), .pointer (some ⟨w.heap.size + 2, 0, none⟩), .pointer (some ⟨w.heap.size + 3, 0, none⟩), .int .i64 0, .int .i64 (x : Int), .pointer (some ⟨W.heap.size, 0, none⟩), .agg #[.int .i64 lo, .int .i64 hi], .slice A n c, .int .i64 0, .int .i64 0, .bool false, undef, undef, .agg #[.int .i64 lo, .int .i64 hi], .slice A n c, .func (.func 18) #[] #[.pointer (some ⟨B + 1, 0, none⟩), .pointer (some ⟨B, 0, none⟩)], .int .i64 (x : Int), .agg #[.int .i64 (L.getD x 0), .int .i64 (end13 hi L x)], undef, undef, undef, undef, undef], defers := [] }
      (W.alloc (.cells #[.int .i64 (L.getD x 0), .int .i64 (end13 hi L x)] 23)) ((KeepsOthers.alloc _ _).from _) ⟨hal.mono (by omega), hal.block _ (by omega), hal.block _ (by omega)⟩
      ⟨hp, hbb.later hal, Nat.le_trans hbs hal.size⟩ ⟨W.heap.size, SpnAt.new W _ _, rfl⟩
    have HFIN := Lib.hid hfin
    unfold encS13
    clear hK hfin hal
    generalize L.getD x 0 = x0 at *
    generalize end13 hi L x = y0 at *
    gi_wp2
    exact HFIN.out
  case body =>
    rintro l pre x a' W hl hr ⟨hp, hbb, hbs⟩ ⟨Bx, hbx, rfl⟩ hlt
    have hx0 := hbx.c0
    have hx1 := hbx.c1
    obtain ⟨⟨b0, b1, b2⟩, ⟨b3, b4, b5, b6⟩, b7, b8⟩ := hbb.facts
    by_cases hxi : (x : Int) = i
    · have hd : ((x : Int) == i) = true := by simpa using hxi
      have HE := Lib.hid (And.intro (hbb.kp (L.getD x 0) (end13 hi L x) 0 W0.heap.size) (hbb.store (L.getD x 0) (end13 hi L x) 0))
      have HX := Lib.hid hxi
      clear hbx hxi
      generalize hx : L.getD x 0 = x0 at *
      generalize hy : end13 hi L x = y0 at *
      have HXY := Lib.hid (And.intro hx hy)
      clear hx hy
      gi_wp2
      exact ⟨HE.out.1, rfl, x, by simp, HX.out, by rw [HXY.out.1, HXY.out.2]; exact HE.out.2⟩
    · have hd : ((x : Int) == i) = false := by simpa using hxi
      have HX := Lib.hid hxi
      clear hbx hxi
      generalize L.getD x 0 = x0 at *
      generalize end13 hi L x = y0 at *
      gi_wp2
      exact ⟨KeepsFrom.refl _ _, KpS13.refl _ _ _ _, fun y hy => (by
        rcases List.mem_append.1 hy with h | h
        · exact hp y h
        · simp at h; subst h; exact HX.out), hbb, hbs⟩
  case done =>
    rintro D ys W hD rfl ⟨hp, hbb, hbs⟩ hK
    have hout : i < 0 ∨ (L.length : Int) ≤ i := by
      by_cases h0 : 0 ≤ i
      · obtain ⟨k, rfl⟩ := Int.eq_ofNat_of_zero_le h0
        have hl := HI.out.len
        by_cases hk : k < n
        · exact absurd rfl (hp k (List.mem_range.2 hk))
        · omega
      · omega
    obtain ⟨e1, e2⟩ := chE13_out HF.out hout
    have HR2 := HR.out
    rw [e1, e2] at HR2
    obtain ⟨rfl, rfl, rfl⟩ := HR2
    clear HR e1 e2
    obtain ⟨⟨b0, b1, b2⟩, ⟨b3, b4, b5, b6⟩, b7, b8⟩ := hbb.facts
    have hE := hbb.store 0 0 3
    have hK2 := (((KeepsOthers.setCell W ⟨w.heap.size + 2, 0, none⟩ (.int .i64 0)).trans (KeepsOthers.setCell _ ⟨w.heap.size + 2, 1, none⟩ (.int .i64 0))).trans (KeepsOthers.setCell _ ⟨w.heap.size + 3, 0, none⟩ (.int .i64 3))).same D _ hK rfl
    have hE2 := Lib.hid (hE.put (.deferred none) (by omega) hK2 rfl)
    have HK2 := Lib.hid hK2
    clear hK2 hE
    gi_wp2
    refine ⟨by simp, .inl ⟨_, _, rfl, run_takeDeferred HK2.out, ?_⟩⟩
    exact ⟨_, res2_13 Try.results12 _ _ (a := ⟨w.heap.size + 2, 0, none⟩) (b := ⟨w.heap.size + 3, 0, none⟩) rfl rfl hE2.out.res.load (load_one13 hE2.out.err.cell Try.underlying28), rfl, hE2.out.bel⟩
  case stop =>
    rintro D cd pre W hD ⟨k, hk, rfl⟩ ⟨rfl, x, hx, hxi, hbb⟩ hK
    have hxn : x < L.length := by have := HI.out.len; have := List.mem_range.1 hx; omega
    subst hxi
    obtain ⟨e1, e2⟩ := chE13_in (lo := lo) (hi := hi) HF.out hxn
    have HR2 := HR.out
    rw [e1, e2] at HR2
    obtain ⟨rfl, rfl, rfl⟩ := HR2
    clear HR e1 e2
    have hE2 := Lib.hid (hbb.put (.deferred none) (by omega) hK rfl)
    gi_wp2
    refine ⟨by simp, .inl ⟨_, _, rfl, run_takeDeferred hK, ?_⟩⟩
    exact ⟨_, res2_13 Try.results12 _ _ (a := ⟨w.heap.size + 2, 0, none⟩) (b := ⟨w.heap.size + 3, 0, none⟩) rfl rfl hE2.out.res.load (load_one13 hE2.out.err.cell Try.underlying28), rfl, hE2.out.bel⟩

theorem Child_any13 {A : Option Addr} {n c : Nat} {L : List Int} (lo hi i : Int) (w : World) (h : Ints w A n c L) :
    Calls Try.prog 12 #[spnV lo hi, .slice A n c, .int .i64 i] w fun e w' => e = .returned (.tuple #[spnV (ch13 lo hi L i).1 (ch13 lo hi L i).2, .int .i64 (chE13 lo hi L i)]) ∧ Below w.heap.size w w' := by
  by_cases hf : fit13 lo hi L = 0
  · exact Child_good13 lo hi i w h hf
  · obtain ⟨e1, e2⟩ := chE13_bad (i := i) hf
    rw [e1, e2]
    exact Child_bad13 lo hi i w h hf

end Go.Proofs.Ytkodddklomegfaa
