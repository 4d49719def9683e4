/-
  Joined: PgM, PgL.
-/
import Derived.RangeFuncNested
import Derived.Maps.AppendAt
import Derived.Test.YtcmehjjaologpaaJSiz17
import Derived.Test.YtcmehjjaologpaaJSiz20
import Derived.Laws.Small
/-
  Layer 18: mapped.
-/
namespace Go.Proofs.Ytcmehjjaologpaa
open Go.RowKit Go.Shelf
set_option linter.unusedVariables false
set_option linter.unusedSimpArgs false
attribute [local go_sem] Oper.semAt_some

theorem load_one18 {P : Program} {w : World} {g : Nat} {ty : TypeId} {v : Value} (hc : w.cell? ⟨g, 0, none⟩ = some v) (hu : P.underlying ty = some (.int .i64)) : (loadVar ty ⟨g, 0, none⟩).run P w = .ok v w := by
  have hagg : (isAgg ty).run P w = .ok false w := by
    unfold isAgg
    rw [Sem.run_bind, run_underlying hu w]
    rfl
  simp [loadVar, Sem.run_bind, hagg, go_sem, hc]
theorem res1_18 {P : Program} {fn : Func} {p : Tmp} {t1 : TypeId} (h : fn.results = #[.cell p t1]) (tmps : Array Value) (w : World) {a : Addr} {v : Value}
    (hp : tmps.getD p undef = .pointer (some a)) (h1 : (loadVar t1 a).run P w = .ok v w) : (results fn tmps).run P w = .ok v w := by
  have hp' : tmps[p]?.getD undef = .pointer (some a) := by simpa using hp
  simp [results, h, hp', asAddr, h1, Result.andThen, Sem.run_bind]

/-- what is wrong with a mapping behind one -/
def errM18 (data last : Int) (x : Nat × Int × Int × Int) : Int := if mapR18 data x.2 = false then 2 else if 0 < x.1 ∧ x.2.1 ≤ last then 8 else 0
/-- the virtual block of the last -/
def lastV18 (last : Int) (l : List (Nat × Int × Int × Int)) : Int := l.foldl (fun _ x => x.2.1) last
/-- the first error of mappings in order -/
def errs18 (data : Int) : Int → List (Nat × Int × Int × Int) → Int
  | _, [] => 0
  | last, x :: r => if errM18 data last x ≠ 0 then errM18 data last x else errs18 data x.2.1 r
theorem errs18_append (data : Int) : ∀ (a : List (Nat × Int × Int × Int)) (last : Int) (b : List (Nat × Int × Int × Int)), errs18 data last (a ++ b) = if errs18 data last a ≠ 0 then errs18 data last a else errs18 data (lastV18 last a) b
  | [], last, b => by simp [errs18, lastV18]
  | x :: r, last, b => by
    rw [List.cons_append, errs18, errs18]
    by_cases h : errM18 data last x ≠ 0
    · rw [if_pos h, if_pos h, if_pos h]
    · rw [if_neg h, if_neg h, errs18_append data r x.2.1 b]
      rfl
theorem errs18_snoc (data last : Int) (a : List (Nat × Int × Int × Int)) (x : Nat × Int × Int × Int) (h : errs18 data last a = 0) : errs18 data last (a ++ [x]) = errM18 data (lastV18 last a) x := by
  rw [errs18_append, if_neg (by rw [h]; simp)]
  rw [errs18]
  split
  · rfl
  · rename_i h; simp only [ne_eq, Decidable.not_not] at h; rw [h]; rfl
theorem lastV18_snoc (last : Int) (a : List (Nat × Int × Int × Int)) (x : Nat × Int × Int × Int) : lastV18 last (a ++ [x]) = x.2.1 := by simp [lastV18]
theorem errs18_stop {data last : Int} {a b : List (Nat × Int × Int × Int)} (h : errs18 data last a ≠ 0) : errs18 data last (a ++ b) = errs18 data last a := by rw [errs18_append, if_pos h]

/-- mapped's own variables: data, the result, the last virtual block -/
structure Mpd18 (w W : World) (data e last : Int) : Prop where
  bd : Boxed W w.heap.size 3 (.int .i64 data)
  be : Boxed W (w.heap.size + 1) 29 (.int .i64 e)
  bl : Boxed W (w.heap.size + 2) 3 (.int .i64 last)
  bel : Below w.heap.size w W
  sz : w.heap.size + 4 ≤ W.heap.size
theorem Mpd18.later {w W W' : World} {data e last : Int} (h : Mpd18 w W data e last) (hb : Below W.heap.size W W') : Mpd18 w W' data e last :=
  ⟨(hb.block _ h.bd.lt).trans h.bd, (hb.block _ h.be.lt).trans h.be, (hb.block _ h.bl.lt).trans h.bl, h.bel.trans (hb.mono h.bel.size), Nat.le_trans h.sz hb.size⟩
theorem Mpd18.last_ {w W : World} {data e last : Int} (h : Mpd18 w W data e last) (v : Int) : Mpd18 w (W.setCell ⟨w.heap.size + 2, 0, none⟩ (.int .i64 v)) data e v :=
  ⟨h.bd.other (by omega) _, h.be.other (by omega) _, h.bl.set _, h.bel.setCell (p := ⟨w.heap.size + 2, 0, none⟩) (by simp) _, by simpa using h.sz⟩
theorem Mpd18.err {w W : World} {data e last : Int} (h : Mpd18 w W data e last) (v : Int) : Mpd18 w (W.setCell ⟨w.heap.size + 1, 0, none⟩ (.int .i64 v)) data v last :=
  ⟨h.bd.other (by omega) _, h.be.set _, h.bl.other (by omega) _, h.bel.setCell (p := ⟨w.heap.size + 1, 0, none⟩) (by simp) _, by simpa using h.sz⟩
theorem Mpd18.own (w : World) (data : Int) {β : Type} (f : β → Int × Int) (C : Nat) (hC : w.heap.size ≤ C) : OwnFrom C (fun (s : β) W => Mpd18 w W data (f s).1 (f s).2) := fun s X Y row hs hg hr =>
  ⟨boxed_own _ _ (fun _ : Unit => Value.int .i64 data) () X Y row hs.bd hg (fun r e => (hr r e).2), boxed_own _ _ (fun _ : Unit => Value.int .i64 (f s).1) () X Y row hs.be hg (fun r e => (hr r e).2), boxed_own _ _ (fun _ : Unit => Value.int .i64 (f s).2) () X Y row hs.bl hg (fun r e => (hr r e).2),
    ownFrom_below (β := Unit) (w₀ := w) (Nat.le_refl _) hC () X Y row hs.bel hg hr, Nat.le_trans hs.sz hg.size⟩
theorem Mpd18.put {w W : World} {data e last : Int} (h : Mpd18 w W data e last) {D : Nat} {o : Obj} (o' : Obj) (hD : w.heap.size ≤ D) (hl : W.heap[D]? = some o) (hc : o.isCells = false) : Mpd18 w (W.putObj D o') data e last :=
  OwnFrom.putObj (Mpd18.own w data (fun _ : Unit => (e, last)) w.heap.size (Nat.le_refl _)) (s := ()) o' h hD hl hc

/-- a mapping in a variable -/
def MapC (W : World) (b : Nat) (x0 x1 x2 : Int) : Prop := W.heap[b]? = some (.cells #[.int .i64 x0, .int .i64 x1, .int .i64 x2] 38 (0, 0))
theorem MapC.cs {W : World} {b : Nat} {x0 x1 x2 : Int} (h : MapC W b x0 x1 x2) : W.cell? ⟨b, 0, none⟩ = some (.int .i64 x0) ∧ W.cell? ⟨b, 1, none⟩ = some (.int .i64 x1) ∧ W.cell? ⟨b, 2, none⟩ = some (.int .i64 x2) :=
  ⟨by rw [cell_of_row W b 0 _ _ _ h]; rfl, by rw [cell_of_row W b 1 _ _ _ h]; rfl, by rw [cell_of_row W b 2 _ _ _ h]; rfl⟩
theorem MapC.new (w : World) (x0 x1 x2 : Int) : MapC (w.alloc (.cells #[.int .i64 x0, .int .i64 x1, .int .i64 x2] 38)) w.heap.size x0 x1 x2 := heap_alloc_new w _
theorem mapC_own (b : Nat) (x0 x1 x2 : Int) : Own (fun (_ : Unit) W => MapC W b x0 x1 x2) := fun s X Y row hs hg hrow => by
  refine (hg.block b (block_lt hs) ?_).trans hs
  intro e
  obtain ⟨o, ho, hc⟩ := hrow b e.symm
  rw [show X.heap[b]? = _ from hs] at ho
  cases ho; cases hc

set_option maxRecDepth 100000 in
set_option maxHeartbeats 2000000 in
theorem mapped_any18 (ds : List Dev18) (A : Option Addr) (n c : Nat) (data : Int) (w : World) (h : Dvs w A n c ds) (h0 : 0 ≤ data) (h1 : data ≤ 65536) :
    Calls Try.prog 27 #[.slice A n c, .int .i64 data] w fun e w' => e = .returned (.int .i64 (errs18 data 0 (flat18 ds))) ∧ Below w.heap.size w w' := by
  have HI := Lib.hid h
  clear h
  obtain ⟨R, hR⟩ : ∃ R, errs18 data 0 (flat18 ds) = R := ⟨_, rfl⟩
  rw [hR]
  have HR := Lib.hid hR
  clear hR
  refine (callsIn_wide (n := 2)).1 ?_
  refine callsIn_of_wp_marks Try.func27 rfl trivial ?_ rfl
  simp only [Try.ntmps27, List.size_toArray, List.length_cons, List.length_nil, Nat.reduceAdd, Nat.reduceSub, Array.replicate_succ, Array.replicate_zero, List.push_toArray, List.append_toArray, List.nil_append, List.cons_append]
  gi_wp2_with (refine ⟨trivial, ?_⟩; gi_at_call 36; refine (callsIn_wide.2 (all_any18 _ _ _ _)).mono ?_; rintro e w' ⟨rfl, rfl⟩)
  obtain ⟨W0, hW0⟩ : ∃ W0, ((((w.alloc (.cells #[.int .i64 data] 3)).alloc (.cells #[.int .i64 0] 29)).alloc (.cells #[.int .i64 0] 3)).alloc (.cells #[.slice A n c] 22)) = W0 := ⟨_, rfl⟩
  have hsz : W0.heap.size = w.heap.size + 4 := by rw [← hW0]; simp
  have hB0 : Below w.heap.size w W0 := by rw [← hW0]; exact ((((Below.refl _ w).alloc (Nat.le_refl _) _).alloc (by simp) _).alloc (by simp; omega) _).alloc (by simp; omega) _
  have hM0 : Mpd18 w W0 data 0 0 := by
    refine ⟨?_, ?_, ?_, hB0, by omega⟩
    · rw [← hW0]; exact (((Boxed.new w _ _).alloc _).alloc _).alloc _
    · have := Boxed.new (w.alloc (.cells #[.int .i64 data] 3)) 29 (.int .i64 0)
      rw [World.size_alloc] at this
      rw [← hW0]; exact (this.alloc _).alloc _
    · have := Boxed.new ((w.alloc (.cells #[.int .i64 data] 3)).alloc (.cells #[.int .i64 0] 29)) 3 (.int .i64 0)
      rw [World.size_alloc, World.size_alloc] at this
      rw [← hW0]; exact this.alloc _
  have bC : Boxed W0 (w.heap.size + 3) 22 (.slice A n c) := by
    have := Boxed.new (((w.alloc (.cells #[.int .i64 data] 3)).alloc (.cells #[.int .i64 0] 29)).alloc (.cells #[.int .i64 0] 3)) 22 (.slice A n c)
    rw [World.size_alloc, World.size_alloc, World.size_alloc] at this
    rw [← hW0]; exact this
  simp only [hW0]
  simp only [show w.heap.size + 1 + 1 + 1 = w.heap.size + 3 from rfl, show w.heap.size + 1 + 1 = w.heap.size + 2 from rfl]
  clear hW0
  have HST := Lib.hid (all_stops (w.heap.size + 3) w.heap.size A n c ds w W0 HI.out (Nat.le_refl _) hB0 (by omega) bC)
  refine wpIn_rangeFunc_ownH rfl (Nat.le_succ 1) (gf := 45) (lb := #[.pointer (some ⟨w.heap.size + 3, 0, none⟩)]) rfl trivial (enters_of Try.func45 (by kernel_rfl) rfl)
    HST.out KpR12.trans (KpR12.put (by omega) (by omega)) (Below.refl _ _) (fun _ => rfl)
    (fun pre W => errs18 data 0 pre = 0 ∧ Mpd18 w W data 0 (lastV18 0 pre))
    (fun cd pre W => cd = .ret ∧ errs18 data 0 pre ≠ 0 ∧ Mpd18 w W data (errs18 data 0 pre) (lastV18 0 pre.dropLast))
    (OwnFrom.and (ownFrom_pure _ _) (Mpd18.own w data (fun pre => (0, lastV18 0 pre)) _ (by omega)))
    (fun cd s X Y row hs hg hr => ⟨hs.1, hs.2.1, Mpd18.own w data (fun pre => (errs18 data 0 pre, lastV18 0 pre.dropLast)) _ (by omega) s X Y row hs.2.2 hg hr⟩)
    ⟨rfl, hM0⟩
    (fun x a' W => ∃ Bx, MapC W Bx x.2.1 x.2.2.1 x.2.2.2 ∧ w.heap.size + 4 ≤ Bx ∧ a' = { tmps := #[.slice A n c, .int .i64 data, undef, .pointer (some ⟨w.heap.size, 0, none⟩), .pointer (some ⟨w.heap.size + 1, 0, none⟩), .pointer (some ⟨w.heap.size + 2, 0, none⟩), .int .i64 (x.1 : Int), .pointer (some ⟨Bx, 0, none⟩), .slice A n c, .func (.func 45) #[] #[.pointer (some ⟨w.heap.size + 3, 0, none⟩)], .int .i64 (x.1 : Int), .agg #[.int .i64 x.2.1, .int .i64 x.2.2.1, .int .i64 x.2.2.2], undef, undef, undef, undef, undef, undef, undef, undef, undef, undef, undef, undef, undef, undef, undef, undef, undef, undef, undef, undef, undef, undef, undef, undef, undef, undef, undef, undef], defers := [] })
    (fun x a' s X Y row hs hg hr => by
      obtain ⟨Bx, e1, e2, e3⟩ := hs
      exact ⟨Bx, mapC_own Bx _ _ _ () X Y row e1 hg (fun r e => (hr r e).2), e2, e3⟩) ?assign ?body ?done ?stop
  case assign =>
    rintro l pre x W K ⟨hp, hm⟩ hK
    have hal := (Below.refl W.heap.size W).alloc (Nat.le_refl _) (.cells #[.int .i64 x.2.1, .int .i64 x.2.2.1, .int .i64 x.2.2.2] 38)
    have hs4 := hm.sz
    have hfin := hK { tmps := #[.slice A n c, .int .i64 data, undef, .pointer (some ⟨w.heap.size, 0, none⟩), .pointer (some ⟨w.heap.size + 1, 0, none⟩), .pointer (some ⟨w.heap.size + 2, 0, none⟩), .int .i64 (x.1 : Int), .pointer (some ⟨W.heap.size, 0, none⟩), .slice A n c, .func (.func 45) #[] #[.pointer (some ⟨w.heap.size + 3, 0, none⟩)], .int .i64 (x.1 : Int), .agg #[.int .i64 x.2.1, .int .i64 x.2.2.1, .int .i64 x.2.2.2], undef, undef, undef, undef, undef, undef, undef, undef, undef, undef, undef, undef, undef, undef, undef, undef, undef, undef, undef, undef, undef, undef, undef, undef, undef, undef, undef, undef], defers := [] }
      (W.alloc (.cells #[.int .i64 x.2.1, .int .i64 x.2.2.1, .int .i64 x.2.2.2] 38)) ((KeepsOthers.alloc _ _).from _) ⟨hal.mono (by omega), hal.block _ (by omega)⟩
      ⟨hp, hm.later hal⟩ ⟨W.heap.size, MapC.new W _ _ _, hs4, rfl⟩
    have HFIN := Lib.hid hfin
    unfold encM18
    obtain ⟨k, v, b, t⟩ := x
    clear hK hfin hal
    gi_wp2
    exact HFIN.out
  case body =>
    rintro l pre x a' W hl hr ⟨hp, hm⟩ ⟨Bx, hbx, hb4, rfl⟩ hlt
    obtain ⟨hx0, hx1, hx2⟩ := hbx.cs
    have b0 := hm.bd.cell
    have b2 := hm.bl.cell
    have b1 := hm.be.cell
    have fe := hm.be.frozen
    have fl := hm.bl.frozen
    have SE := errs18_snoc data 0 pre x hp
    have SL := lastV18_snoc 0 pre x
    have DL : (pre ++ [x]).dropLast = pre := by simp
    obtain ⟨k, v, b, t⟩ := x
    have HE : ∀ q, errM18 data (lastV18 0 pre) (k, v, b, t) = q → q ≠ 0 → Hid (KeepsFrom W0.heap.size W (W.setCell ⟨w.heap.size + 1, 0, none⟩ (.int .i64 q)) ∧ Code.ret = .ret ∧ errs18 data 0 (pre ++ [(k, v, b, t)]) ≠ 0 ∧ Mpd18 w (W.setCell ⟨w.heap.size + 1, 0, none⟩ (.int .i64 q)) data (errs18 data 0 (pre ++ [(k, v, b, t)])) (lastV18 0 (pre ++ [(k, v, b, t)]).dropLast)) := fun q hq h0 => by
      rw [SE, DL, hq]
      exact ⟨(KeepsOthers.setCell _ _ _).from _, rfl, h0, hm.err q⟩
    have HG : errM18 data (lastV18 0 pre) (k, v, b, t) = 0 → Hid (KeepsFrom W0.heap.size W (W.setCell ⟨w.heap.size + 2, 0, none⟩ (.int .i64 v)) ∧ KpR12 w.heap.size (w.heap.size + 3) W (W.setCell ⟨w.heap.size + 2, 0, none⟩ (.int .i64 v)) ∧ errs18 data 0 (pre ++ [(k, v, b, t)]) = 0 ∧ Mpd18 w (W.setCell ⟨w.heap.size + 2, 0, none⟩ (.int .i64 v)) data 0 (lastV18 0 (pre ++ [(k, v, b, t)]))) := fun hq => by
      rw [SE, SL, hq]
      exact ⟨(KeepsOthers.setCell _ _ _).from _, ⟨(Below.refl _ _).setCell (p := ⟨w.heap.size + 2, 0, none⟩) (by simp) _, heap_setCell_other _ _ (w.heap.size + 3) _ (by show ¬ w.heap.size + 3 = w.heap.size + 2; omega)⟩, rfl, hm.last_ v⟩
    have HE := Lib.hid HE
    have HG := Lib.hid HG
    have I0 : Hid (∀ W, CallsIn (Fence.wide.inRound l) 0 Try.prog 34 #[.int .i64 v, .int .i64 0, .int .i64 281474976710655] W fun e w' => e = .returned (.bool (in18 v 0 281474976710655)) ∧ W = w') := fun W => callsIn_wide.2 (within_any18 v 0 281474976710655 W)
    have I1 : Hid (∀ W, CallsIn (Fence.wide.inRound l) 0 Try.prog 34 #[.int .i64 b, .int .i64 0, .int .i64 (data - 1)] W fun e w' => e = .returned (.bool (in18 b 0 (data - 1))) ∧ W = w') := fun W => callsIn_wide.2 (within_any18 b 0 (data - 1) W)
    have I2 : Hid (∀ W, CallsIn (Fence.wide.inRound l) 0 Try.prog 34 #[.int .i64 t, .int .i64 0, .int .i64 16777215] W fun e w' => e = .returned (.bool (in18 t 0 16777215)) ∧ W = w') := fun W => callsIn_wide.2 (within_any18 t 0 16777215 W)
    have EM : Hid (errM18 data (lastV18 0 pre) (k, v, b, t) = if (in18 v 0 281474976710655 && in18 b 0 (data - 1) && in18 t 0 16777215) = false then 2 else if 0 < k ∧ v ≤ lastV18 0 pre then 8 else 0) := Lib.hid rfl
    have hmI := Lib.hid hm
    clear SE SL DL hm hp hbx
    generalize errM18 data (lastV18 0 pre) (k, v, b, t) = em at *
    generalize hla : lastV18 0 pre = la at *
    clear hla
    generalize in18 v 0 281474976710655 = r0 at *
    generalize in18 b 0 (data - 1) = r1 at *
    generalize in18 t 0 16777215 = r2 at *
    cases r0 <;> cases r1 <;> cases r2
    rotate_right 1
    · by_cases hk : 0 < k
      · have hkd : decide ((0 : Int) < (k : Int)) = true := by simpa using hk
        have hkd2 : decide (0 < k) = true := by simpa using hk
        by_cases hv : v ≤ la
        · have HX := Lib.hid (HE.out 8 (by have := EM.out; simpa [hk, hv] using this) (by decide))
          clear HE HG EM
          gi_wp2_with (first | (refine ⟨trivial, rfl, ?_⟩; (first
        | (with_reducible refine (I0.out _).mono ?_)
        | (with_reducible refine (I1.out _).mono ?_)
        | (with_reducible refine (I2.out _).mono ?_)); rintro e w' ⟨rfl, rfl⟩) | (refine ⟨trivial, ?_⟩))
          exact ⟨HX.out.out.1, rfl, HX.out.out.2.2⟩
        · have HX := Lib.hid (HG.out (by have := EM.out; simpa [hk, hv] using this))
          clear HE HG EM
          gi_wp2_with (first | (refine ⟨trivial, rfl, ?_⟩; (first
        | (with_reducible refine (I0.out _).mono ?_)
        | (with_reducible refine (I1.out _).mono ?_)
        | (with_reducible refine (I2.out _).mono ?_)); rintro e w' ⟨rfl, rfl⟩) | (refine ⟨trivial, ?_⟩))
          exact HX.out.out
      · have hkz : ¬ (0 : Int) < (k : Int) := by omega
        have hkd : decide ((0 : Int) < (k : Int)) = false := by simpa using hkz
        have hkd2 : decide (0 < k) = false := by simpa using hk
        have HX := Lib.hid (HG.out (by have := EM.out; simpa [hk] using this))
        clear HE HG EM
        gi_wp2_with (first | (refine ⟨trivial, rfl, ?_⟩; (first
        | (with_reducible refine (I0.out _).mono ?_)
        | (with_reducible refine (I1.out _).mono ?_)
        | (with_reducible refine (I2.out _).mono ?_)); rintro e w' ⟨rfl, rfl⟩) | (refine ⟨trivial, ?_⟩))
        exact HX.out.out
    all_goals
      have HX := Lib.hid (HE.out 2 (by have := EM.out; simpa using this) (by decide))
      clear HE HG EM
      gi_wp2_with (first | (refine ⟨trivial, rfl, ?_⟩; (first
        | (with_reducible refine (I0.out _).mono ?_)
        | (with_reducible refine (I1.out _).mono ?_)
        | (with_reducible refine (I2.out _).mono ?_)); rintro e w' ⟨rfl, rfl⟩) | (refine ⟨trivial, ?_⟩))
      exact ⟨HX.out.out.1, rfl, HX.out.out.2.2⟩
  case done =>
    rintro D ys W hD rfl ⟨hp, hm⟩ hK
    have b1 := hm.be.cell
    have fe := hm.be.frozen
    obtain rfl : 0 = R := by rw [← HR.out, hp]
    have hm2 := hm.err 0
    have hK2 : (W.setCell ⟨w.heap.size + 1, 0, none⟩ (.int .i64 0)).heap[D]? = some (.deferred (some [])) := (heap_setCell_other _ _ D _ (by show ¬ D = w.heap.size + 1; omega)).trans hK
    have HM := Lib.hid (hm2.put (.deferred none) (by omega) hK2 rfl)
    have hK2 := Lib.hid hK2
    clear hm hm2 hp
    gi_wp2
    refine ⟨by simp, .inl ⟨_, _, rfl, run_takeDeferred hK2.out, ?_⟩⟩
    exact ⟨_, res1_18 Try.results27 _ _ (a := ⟨w.heap.size + 1, 0, none⟩) rfl (load_one18 HM.out.be.cell Try.underlying29), rfl, HM.out.bel⟩
  case stop =>
    rintro D c pre W hD hr ⟨rfl, he, hm⟩ hK
    obtain ⟨r, hr⟩ := hr
    obtain rfl : errs18 data 0 pre = R := by rw [← HR.out, hr, errs18_stop he]
    have HM := Lib.hid (hm.put (.deferred none) (by omega) hK rfl)
    clear hm he hr
    gi_wp2
    refine ⟨by simp, .inl ⟨_, _, rfl, run_takeDeferred hK, ?_⟩⟩
    exact ⟨_, res1_18 Try.results27 _ _ (a := ⟨w.heap.size + 1, 0, none⟩) rfl (load_one18 HM.out.be.cell Try.underlying29), rfl, HM.out.bel⟩
end Go.Proofs.Ytcmehjjaologpaa

/-
  Layer 18: Latest.
-/
namespace Go.Proofs.Ytcmehjjaologpaa
open Go.RowKit Go.Shelf
set_option linter.unusedVariables false
set_option linter.unusedSimpArgs false
attribute [local go_sem] Oper.semAt_some

theorem num18_map {β : Type} (f : Int × Int × Int → β) (l : List (Int × Int × Int)) : (num18 l).map (fun x => f x.2) = l.map f := by
  apply List.ext_getElem
  · simp [num18]
  · intro i h1 h2
    have hi : i < l.length := by simpa using h2
    simp [num18, hi]
theorem flat18_map {β : Type} (f : Int × Int × Int → β) (ds : List Dev18) : (flat18 ds).map (fun x => f x.2) = ds.flatMap fun d => d.maps.map f := by
  unfold flat18
  rw [List.map_flatMap]
  exact congrArg (fun g => List.flatMap g ds) (funext fun d => num18_map f d.maps)
/-- Latest's own variables -/
structure Lat18 (w W : World) (la : Int) : Prop where
  bl : Boxed W (w.heap.size + 1) 3 (.int .i64 la)
  bel : Below w.heap.size w W
  sz : w.heap.size + 3 ≤ W.heap.size
theorem Lat18.later {w W W' : World} {la : Int} (h : Lat18 w W la) (hb : Below W.heap.size W W') : Lat18 w W' la :=
  ⟨(hb.block _ h.bl.lt).trans h.bl, h.bel.trans (hb.mono h.bel.size), Nat.le_trans h.sz hb.size⟩
theorem Lat18.set {w W : World} {la : Int} (h : Lat18 w W la) (v : Int) : Lat18 w (W.setCell ⟨w.heap.size + 1, 0, none⟩ (.int .i64 v)) v :=
  ⟨h.bl.set _, h.bel.setCell (p := ⟨w.heap.size + 1, 0, none⟩) (by simp) _, by simpa using h.sz⟩
theorem Lat18.own (w : World) {β : Type} (f : β → Int) (C : Nat) (hC : w.heap.size ≤ C) : OwnFrom C (fun (s : β) W => Lat18 w W (f s)) := fun s X Y row hs hg hr =>
  ⟨boxed_own _ _ (fun _ : Unit => Value.int .i64 (f s)) () X Y row hs.bl hg (fun r e => (hr r e).2), ownFrom_below (β := Unit) (w₀ := w) (Nat.le_refl _) hC () X Y row hs.bel hg hr, Nat.le_trans hs.sz hg.size⟩
theorem Lat18.put {w W : World} {la : Int} (h : Lat18 w W la) {D : Nat} {o : Obj} (o' : Obj) (hD : w.heap.size ≤ D) (hl : W.heap[D]? = some o) (hc : o.isCells = false) : Lat18 w (W.putObj D o') la :=
  OwnFrom.putObj (Lat18.own w (fun _ : Unit => la) w.heap.size (Nat.le_refl _)) (s := ()) o' h hD hl hc

end Go.Proofs.Ytcmehjjaologpaa
