/-
  Joined: ValA, ValB, ValC, ValD, ValE.
-/
import Derived.LoopTactic
import Derived.BigQuiet
import Derived.Deep.RegionHeld3
import Derived.Test.YtoacgoelhidmbaaJTly09
import Derived.Test.YtoacgoelhidmbaaJTly00
import Derived.Test.YtoacgoelhidmbaaJTly05
import Derived.Test.YtoacgoelhidmbaaJTly01
import Derived.Laws.Rows
import Derived.Test.YtoacgoelhidmbaaJTly06
/-
  Layer 8's numbers in memory; build.
-/
namespace Go.Proofs.Ytoacgoelhidmbaa
open Go.RowKit
set_option linter.unusedVariables false
set_option linter.unusedSimpArgs false

/-- the numbers of a value in memory: k's pointer leads to block g k, cell o k -/
structure NumsAt (w : World) (b off n c : Nat) (l : List (NumS × Int)) (g o : Nat → Nat) : Prop where
  len : l.length = n
  pos : 0 < n
  small : n ≤ 100
  cap : n ≤ c
  most : c ≤ 9223372036854775807
  lt : b < w.heap.size
  fit : ∀ p ∈ l, fitN p.1
  row : ∀ k (h : k < l.length), w.cell? ⟨b, off + k * 4, none⟩ = some (.pointer (some ⟨g k, o k, none⟩)) ∧ w.cell? ⟨b, off + k * 4 + 1, none⟩ = some (.int .i64 (l[k].1.1 : Int)) ∧
    w.cell? ⟨b, off + k * 4 + 2, none⟩ = some (.int .i64 l[k].1.2.1) ∧ w.cell? ⟨b, off + k * 4 + 3, none⟩ = some (.int .i64 l[k].1.2.2)
theorem NumsAt.later {w w' : World} {b off n c : Nat} {l : List (NumS × Int)} {g o : Nat → Nat} (h : NumsAt w b off n c l g o) (hb : w.heap.size ≤ w'.heap.size) (he : w'.heap[b]? = w.heap[b]?) : NumsAt w' b off n c l g o :=
  ⟨h.len, h.pos, h.small, h.cap, h.most, Nat.lt_of_lt_of_le h.lt hb, h.fit, fun k hk => by
    obtain ⟨h0, h1, h2, h3⟩ := h.row k hk
    exact ⟨(World.cell?_of_block (w := w) (a := ⟨b, off + k * 4, none⟩) he).trans h0, (World.cell?_of_block (w := w) (a := ⟨b, off + k * 4 + 1, none⟩) he).trans h1, (World.cell?_of_block (w := w) (a := ⟨b, off + k * 4 + 2, none⟩) he).trans h2, (World.cell?_of_block (w := w) (a := ⟨b, off + k * 4 + 3, none⟩) he).trans h3⟩⟩
/-- the values that the pointers lead to -/
def ValsAt (w : World) (l : List (NumS × Int)) (g o : Nat → Nat) : Prop := ∀ k (h : k < l.length), w.cell? ⟨g k, o k, none⟩ = some (.int .i64 l[k].2)

set_option maxRecDepth 100000 in
theorem holds_any8 (w : World) (p : Value) (hp : p.oneCell' = true) (wd lo hi n : Int) (r : Bool) (hr : inB n lo hi = r) :
    Calls Try.prog 31 #[.agg #[p, .int .i64 wd, .int .i64 lo, .int .i64 hi], .int .i64 n] w fun e w' => e = .returned (.bool r) ∧ Below w.heap.size w w' := by
  by_cases h : lo ≤ n
  · go_enter Try.func31, Try.ntmps31
    go_wp2
    go_ret
    exact ⟨ret_bool (by rw [← hr, inB, decide_eq_true h, Bool.true_and]), (Below.refl _ _).alloc (Nat.le_refl _) _⟩
  · go_enter Try.func31, Try.ntmps31
    go_wp2
    go_ret
    exact ⟨ret_bool (by rw [← hr, inB, decide_eq_false (by omega), Bool.false_and]), (Below.refl _ _).alloc (Nat.le_refl _) _⟩

theorem two_new8 (w : World) (o1 o2 : Obj) : ((w.alloc o1).alloc o2).heap[w.heap.size]? = some o1 ∧ ((w.alloc o1).alloc o2).heap[w.heap.size + 1]? = some o2 ∧ Below w.heap.size w ((w.alloc o1).alloc o2) := by
  have h1 := heap_alloc_new w o1
  have h2 := heap_alloc_new (w.alloc o1) o2
  have b1 : Below w.heap.size w (w.alloc o1) := (Below.refl _ _).alloc (Nat.le_refl _) _
  have b2 : Below (w.alloc o1).heap.size (w.alloc o1) ((w.alloc o1).alloc o2) := (Below.refl _ _).alloc (Nat.le_refl _) _
  have hs : (w.alloc o1).heap.size = w.heap.size + 1 := by simp
  rw [hs] at h2
  exact ⟨(b2.block _ (by omega)).trans h1, h2, b1.trans (b2.mono (by omega))⟩

/-- a number in a variable -/
def NumVar (W : World) (q : Nat) (p : Value) (wd lo hi : Int) : Prop := W.heap[q]? = some (.cells #[p, .int .i64 wd, .int .i64 lo, .int .i64 hi] 56 (0, 0))
theorem NumVar.later {w w' : World} {q B : Nat} {p : Value} {wd lo hi : Int} (h : NumVar w q p wd lo hi) (hb : Below B w w') (hq : q < B) : NumVar w' q p wd lo hi := (hb.block q hq).trans h
theorem NumVar.facts {w : World} {q : Nat} {p : Value} {wd lo hi : Int} (h : NumVar w q p wd lo hi) : w.cell? ⟨q, 0, none⟩ = some p ∧ w.cell? ⟨q, 1, none⟩ = some (.int .i64 wd) ∧ w.cell? ⟨q, 2, none⟩ = some (.int .i64 lo) ∧ w.cell? ⟨q, 3, none⟩ = some (.int .i64 hi) := by
  refine ⟨?_, ?_, ?_, ?_⟩
  · rw [cell_of_row w q 0 _ _ _ h]; rfl
  · rw [cell_of_row w q 1 _ _ _ h]; rfl
  · rw [cell_of_row w q 2 _ _ _ h]; rfl
  · rw [cell_of_row w q 3 _ _ _ h]; rfl

theorem flds_new {W : World} {gg : Nat} {t : TypeId} {a x : Int} (h : W.heap[gg]? = some (.cells #[.int .i64 a, .int .i64 x] t (0, 0))) (ha : i64b a) (hx : i64b x) : Flds W (some ⟨gg, 0, none⟩) 1 1 [(a, x)] :=
  ⟨rfl, Nat.le_refl _, by omega, Row.of_block h, fun p hp => by
    rw [List.mem_singleton] at hp
    subst hp
    exact ⟨ha, hx⟩⟩

/-- Pack of one number of eight bytes -/
theorem pack_one (x : Nat) (hx : x < 9223372036854775808) (W : World) (gg : Nat) (t : TypeId) (h : W.heap[gg]? = some (.cells #[.int .i64 8, .int .i64 (x : Int)] t (0, 0))) :
    Calls Try.prog 30 #[.slice (some ⟨gg, 0, none⟩) 1 1] W fun e w' => ∃ b' o' c', e = .returned (.tuple #[.slice (some ⟨b', o', none⟩) 8 c', .int .i64 0]) ∧ 8 ≤ c' ∧ c' ≤ 9223372036854775807 ∧ Bytes8 w' (some ⟨b', o', none⟩) 8 c' (encN 8 x) ∧ Below W.heap.size W w' := by
  refine (Pack_any _ 1 1 _ W (flds_new h (by simp only [i64b]; omega) (by simp only [i64b]; omega)) (by omega)).mono ?_
  rintro e w' ⟨A', m, c', rfl, hB, hb⟩
  have e0 : packE [((8 : Int), (x : Int))] = 0 := by simp [packE, isW, fitsB]
  rw [packB, if_pos e0] at hB
  have e1 : encs [((8 : Int), (x : Int))] = encN 8 x := by simp [encs]
  rw [e1] at hB
  obtain rfl : 8 = m := by have := hB.len; rw [encN_length] at this; exact this
  obtain ⟨b', o', rfl, _, _⟩ := hB.row.lit (by rw [u8s_length, hB.len]; omega)
  exact ⟨b', o', c', by rw [e0], hB.cap, hB.most, hB, hb⟩
theorem pack_neg (x : Int) (hx : x < 0) (hx2 : -9223372036854775808 ≤ x) (W : World) (gg : Nat) (t : TypeId) (h : W.heap[gg]? = some (.cells #[.int .i64 8, .int .i64 x] t (0, 0))) :
    Calls Try.prog 30 #[.slice (some ⟨gg, 0, none⟩) 1 1] W fun e w' => ∃ A' m c', e = .returned (.tuple #[.slice A' m c', .int .i64 2]) ∧ Below W.heap.size W w' := by
  refine (Pack_any _ 1 1 _ W (flds_new h (by simp only [i64b]; omega) (by simp only [i64b]; omega)) (by omega)).mono ?_
  rintro e w' ⟨A', m, c', rfl, hB, hb⟩
  have e0 : packE [((8 : Int), x)] = 2 := by simp [packE, isW, fitsB]; omega
  exact ⟨A', m, c', by rw [e0], hb⟩

end Go.Proofs.Ytoacgoelhidmbaa

/-
  Layer 8's build.
-/
namespace Go.Proofs.Ytoacgoelhidmbaa
open Go.RowKit
set_option linter.unusedVariables false
set_option linter.unusedSimpArgs false

set_option maxRecDepth 100000 in
set_option maxHeartbeats 1600000 in
theorem build_any (w : World) (b off n c : Nat) (l : List (NumS × Int)) (g o : Nat → Nat) (h : NumsAt w b off n c l g o) (hv : ValsAt w l g o) (hbv : ∀ p ∈ l, i64b p.2) :
    Calls Try.prog 24 #[.slice (some ⟨b, off, none⟩) n c] w fun e w' => e = .returned (.string ⟨(bldP l).toArray⟩) ∧ Below w.heap.size w w' := by
  have HN := Lib.hid h
  have HV := Lib.hid hv
  have HB := Lib.hid hbv
  have hn := h.small
  have hlen := Lib.hid h.len
  have hcap := h.cap
  have hmost := h.most
  clear h hv hbv
  go_enter Try.func24, Try.ntmps24
  go_wp2
  go_loopw [3, 10] (fun v i wr => ∃ k : Nat, k ≤ n ∧ i = .int .i64 k ∧ Hid (okP (l.take k) = true) ∧ Hid (wr.ownsRow w.heap.size 5 1 v (encP (l.take k)).length (u8s (encP (l.take k)))) ∧ w.heap.size ≤ wr.heap.size ∧ Below w.heap.size w wr) (fun _ i _ => n - (intOf i).toNat)
  case atStart => exact ⟨0, by omega, rfl, rfl, World.ownsRow_nil _ _ _ _, Nat.le_refl _, Below.refl _ _⟩
  case round =>
    obtain ⟨k, hk, rfl, hE, hown, hs, hbel⟩ := hrel
    by_cases hlt : k < n
    · have hkl : k < l.length := by have := hlen.out; omega
      obtain ⟨h0, h1, h2, h3⟩ := (HN.out.later hbel.size (hbel.block b HN.out.lt)).row k hkl
      have hg := cell_lt (HV.out k hkl)
      have hx0 := (hbel.cell (p := ⟨g k, o k, none⟩) hg).trans (HV.out k hkl)
      have hxA : ∀ ob, (wr.alloc ob).cell? ⟨g k, o k, none⟩ = some (.int .i64 l[k].2) := fun ob => (((Below.refl wr.heap.size wr).alloc (Nat.le_refl _) ob).cell (p := ⟨g k, o k, none⟩) (Nat.lt_of_lt_of_le hg hs)).trans hx0
      obtain ⟨hb1, hb2⟩ := HB.out l[k] (List.getElem_mem _)
      obtain ⟨f1, f2, f3, f4, _, _, _⟩ := HN.out.fit l[k] (List.getElem_mem _)
      have hok := Lib.hid (okP_step hkl)
      have hen := Lib.hid (encP_step hkl)
      have hbad := Lib.hid (okP_bad hkl)
      have hle := Lib.hid (encP_le (l := l.take k) fun p hp => (HN.out.fit p (List.mem_of_mem_take hp)).2.1)
      generalize l[k].1.1 = wd at *
      generalize l[k].1.2.1 = lo at *
      generalize l[k].1.2.2 = hi at *
      generalize l[k].2 = x at *
      generalize g k = gk at *
      generalize o k = ok at *
      have hXF := fun F : Obj => two_new8 wr (.cells #[.pointer (some ⟨gk, ok, none⟩), .int .i64 (wd : Int), .int .i64 lo, .int .i64 hi] 56) F
      have HXF := Lib.hid hXF
      have hss : ∀ ob, (wr.alloc ob).heap.size = wr.heap.size + 1 := fun ob => by simp
      have HSS := Lib.hid hss
      clear hXF hss
      by_cases hneg : x < 0
      · have PK := Lib.hid (pack_neg x hneg hb1)
        have hno : Hid (okP l = false) := hbad.out (by rw [← Bool.not_eq_true, inB_iff]; omega)
        go_wp2_with (go_at_call 30; (with_reducible refine (PK.out _ _ _ (HXF.out _).2.1).mono ?_); rintro e w1 ⟨A1, m1, c1, rfl, hb1⟩)
        go_quiet (fail)
        go_wp2
        go_ret
        have h2 := (HXF.out (.cells #[.int .i64 8, .int .i64 x] 69)).2.2
        have h3 : w.heap.size ≤ ((wr.alloc (.cells #[.pointer (some ⟨gk, ok, none⟩), .int .i64 (wd : Int), .int .i64 lo, .int .i64 hi] 56)).alloc (.cells #[.int .i64 8, .int .i64 x] 69)).heap.size := by simp; omega
        exact ⟨by rw [bldP, hno.out]; rfl, below_drewN ((hbel.trans (h2.mono hs)).trans (hb1.mono h3)) _⟩
      · obtain ⟨xn, rfl⟩ := Int.eq_ofNat_of_zero_le (by omega : 0 ≤ x)
        have PK := Lib.hid (pack_one xn (by omega))
        have hcs : ∀ W, NumVar W wr.heap.size (.pointer (some ⟨gk, ok, none⟩)) wd lo hi → _ := fun W => NumVar.facts
        have HCS := Lib.hid hcs
        clear hcs
        have hsz : gk < wr.heap.size := Nat.lt_of_lt_of_le hg hs
        cases hin : inB xn lo hi with
        | false =>
          have HO := Lib.hid (fun W => holds_any8 W (.pointer (some ⟨gk, ok, none⟩)) rfl wd lo hi xn false hin)
          have hno := Lib.hid (hbad.out hin)
          clear hin
          go_wp2_with (go_at_call 30; (with_reducible refine (PK.out _ _ _ (HXF.out _).2.1).mono ?_); rintro e w1 ⟨b1, o1, c1, rfl, hc8, hcm, hB1, hb1⟩)
          have hB1' := Lib.hid hB1
          clear hB1
          have hb2 := (HXF.out (.cells #[.int .i64 8, .int .i64 xn] 69)).2.2
          have hz2 : ((wr.alloc (.cells #[.pointer (some ⟨gk, ok, none⟩), .int .i64 (wd : Int), .int .i64 lo, .int .i64 hi] 56)).alloc (.cells #[.int .i64 8, .int .i64 xn] 69)).heap.size = wr.heap.size + 2 := by simp
          have hb3 := (hb2.trans (hb1.mono (by omega))).drew
          have hx1 : NumVar w1.drew wr.heap.size (.pointer (some ⟨gk, ok, none⟩)) wd lo hi := (hb1.drew.block wr.heap.size (by omega)).trans (HXF.out _).1
          obtain ⟨x0, x1, x2, x3⟩ := HCS.out _ hx1
          have x4 := (hb3.cell (p := ⟨gk, ok, none⟩) hsz).trans hx0
          go_region_held3 (fun W => W.cell? ⟨wr.heap.size, 0, none⟩ = some (.pointer (some ⟨gk, ok, none⟩)) ∧ W.cell? ⟨wr.heap.size, 1, none⟩ = some (.int .i64 wd) ∧ W.cell? ⟨wr.heap.size, 2, none⟩ = some (.int .i64 lo) ∧ W.cell? ⟨wr.heap.size, 3, none⟩ = some (.int .i64 hi) ∧ W.cell? ⟨gk, ok, none⟩ = some (.int .i64 xn))
            (first | exact ⟨x0, x1, x2, x3, x4⟩ | exact ⟨y0, y1, y2, y3, y4⟩)
            (first | (go_at_call 31; (with_reducible refine (HO.out _).mono ?_); rintro e w2 ⟨rfl, hb4⟩; have hb5 := hb3.trans (hb4.mono hb3.size); obtain ⟨y0, y1, y2, y3⟩ := HCS.out _ (hx1.later hb4 (cell_lt x0)); have y4 := (hb5.cell (p := ⟨gk, ok, none⟩) hsz).trans hx0))
          go_wp2
          go_ret
          exact ⟨by rw [bldP, hno.out]; rfl, hbel.trans (hb5.mono hs)⟩
        | true =>
          have HO := Lib.hid (fun W => holds_any8 W (.pointer (some ⟨gk, ok, none⟩)) rfl wd lo hi xn true hin)
          have hok' : Hid (okP (l.take (k + 1)) = true) := by rw [hok.out, hE.out, hin]; rfl
          clear hin
          go_wp2_with (go_at_call 30; (with_reducible refine (PK.out _ _ _ (HXF.out _).2.1).mono ?_); rintro e w1 ⟨b1, o1, c1, rfl, hc8, hcm, hB1, hb1⟩)
          have hB1' := Lib.hid hB1
          clear hB1
          have hb2 := (HXF.out (.cells #[.int .i64 8, .int .i64 xn] 69)).2.2
          have hz2 : ((wr.alloc (.cells #[.pointer (some ⟨gk, ok, none⟩), .int .i64 (wd : Int), .int .i64 lo, .int .i64 hi] 56)).alloc (.cells #[.int .i64 8, .int .i64 xn] 69)).heap.size = wr.heap.size + 2 := by simp
          have hb3 := (hb2.trans (hb1.mono (by omega))).drew
          have hx1 : NumVar w1.drew wr.heap.size (.pointer (some ⟨gk, ok, none⟩)) wd lo hi := (hb1.drew.block wr.heap.size (by omega)).trans (HXF.out _).1
          obtain ⟨x0, x1, x2, x3⟩ := HCS.out _ hx1
          have x4 := (hb3.cell (p := ⟨gk, ok, none⟩) hsz).trans hx0
          go_region_held3 (fun W => W.cell? ⟨wr.heap.size, 0, none⟩ = some (.pointer (some ⟨gk, ok, none⟩)) ∧ W.cell? ⟨wr.heap.size, 1, none⟩ = some (.int .i64 wd) ∧ W.cell? ⟨wr.heap.size, 2, none⟩ = some (.int .i64 lo) ∧ W.cell? ⟨wr.heap.size, 3, none⟩ = some (.int .i64 hi) ∧ W.cell? ⟨gk, ok, none⟩ = some (.int .i64 xn))
            (first | exact ⟨x0, x1, x2, x3, x4⟩ | exact ⟨y0, y1, y2, y3, y4⟩)
            (first | (go_at_call 31; (with_reducible refine (HO.out _).mono ?_); rintro e w2 ⟨rfl, hb4⟩; have hb5 := hb3.trans (hb4.mono hb3.size); obtain ⟨y0, y1, y2, y3⟩ := HCS.out _ (hx1.later hb4 (cell_lt x0)); have y4 := (hb5.cell (p := ⟨gk, ok, none⟩) hsz).trans hx0))
          have hown2 : Hid (w2.ownsRow w.heap.size 5 1 u3 (encP (l.take k)).length (u8s (encP (l.take k)))) := own_below hown hb5
          have hR : Row w2 (some ⟨b1, o1, none⟩) (u8s (encN wd xn)) := by
            have := ((hB1'.out.below (Below.trans (Below.drew (Below.refl _ _)) hb4)).row).take wd
            rwa [u8s_take, encN_take 8 wd xn f2] at this
          have hle' : (encP (l.take k)).length ≤ 800 := by have := hle.out; rw [List.length_take] at this; omega
          go_wp2_with (at_builtin; refine wpList_append_row w2 rfl (.tmp 35) (.tmp 39) _ rfl w.heap.size 5 _ 1 Try.underlying65 info_u8 rfl u3 _ _ rfl hown2 (Nat.le_trans hs hb5.size) _ (u8s (encN wd xn)) wd c1 rfl (by rw [u8s_length, encN_length]) hR (u8s_one _) (by omega) (by omega) ?_; intro v3 w3 ho3 hs3 hb6)
          go_roundw
          case rel =>
            refine ⟨k + 1, by omega, by go_num, hok', ?_, hs3, (hbel.trans (hb5.mono hs)).trans hb6⟩
            have := ho3.out
            rw [← u8s_append] at this
            rw [hen.out, List.length_append, encN_length]
            exact this
          case measure => simp [intOf]; omega
    · obtain rfl : k = n := by omega
      have htk : l.take k = l := List.take_of_length_le (by have := hlen.out; omega)
      have hE' : Hid (okP l = true) := by rw [← htk]; exact hE
      have hown' : wr.ownsRow w.heap.size 5 1 u3 (encP l).length (u8s (encP l)) := by have := hown.out; rwa [htk] at this
      obtain ⟨A', c', hv, hB⟩ := Bytes8.of_own hown'
      have hcv : (convert 65 9 u3).run Try.prog wr = .ok (.string ⟨(encP l).toArray⟩) wr := by rw [hv]; exact run_str hB
      clear hv hB htk hown'
      go_wp2
      go_ret
      exact ⟨by rw [bldP, hE'.out]; rfl, hbel⟩

end Go.Proofs.Ytoacgoelhidmbaa

/-
  Layer 8's numbers of each kind; the values of all kinds.
-/
namespace Go.Proofs.Ytoacgoelhidmbaa
open Go.RowKit
set_option linter.unusedVariables false
set_option linter.unusedSimpArgs false

/-- the numbers as cells -/
def numC (g o : Nat → Nat) : List (NumS × Int) → Nat → List Value
  | [], _ => []
  | p :: r, k => .pointer (some ⟨g k, o k, none⟩) :: .int .i64 (p.1.1 : Int) :: .int .i64 p.1.2.1 :: .int .i64 p.1.2.2 :: numC g o r (k + 1)

theorem numC_at {g o : Nat → Nat} : ∀ (l : List (NumS × Int)) (j k : Nat) (h : k < l.length), (numC g o l j)[k * 4]? = some (.pointer (some ⟨g (j + k), o (j + k), none⟩)) ∧ (numC g o l j)[k * 4 + 1]? = some (.int .i64 (l[k].1.1 : Int)) ∧
    (numC g o l j)[k * 4 + 2]? = some (.int .i64 l[k].1.2.1) ∧ (numC g o l j)[k * 4 + 3]? = some (.int .i64 l[k].1.2.2)
  | [], _, _, h => by cases h
  | p :: r, j, 0, _ => ⟨rfl, rfl, rfl, rfl⟩
  | p :: r, j, k + 1, h => by
    obtain ⟨h0, h1, h2, h3⟩ := numC_at r (j + 1) k (by simpa using h)
    rw [show j + 1 + k = j + (k + 1) by omega] at h0
    rw [show (k + 1) * 4 = k * 4 + 1 + 1 + 1 + 1 by omega]
    refine ⟨?_, ?_, ?_, ?_⟩
    · simp only [numC, List.getElem?_cons_succ]; exact h0
    · simp only [numC, List.getElem?_cons_succ]; exact h1
    · rw [show k * 4 + 1 + 1 + 1 + 1 + 2 = k * 4 + 2 + 1 + 1 + 1 + 1 by omega]; simp only [numC, List.getElem?_cons_succ]; exact h2
    · rw [show k * 4 + 1 + 1 + 1 + 1 + 3 = k * 4 + 3 + 1 + 1 + 1 + 1 by omega]; simp only [numC, List.getElem?_cons_succ]; exact h3

/-- a new row of numbers -/
theorem nums_new {W : World} {q n : Nat} {l : List (NumS × Int)} {g o : Nat → Nat} (h : W.heap[q]? = some (.cells (numC g o l 0).toArray 56 (0, 0))) (hl : l.length = n) (h0 : 0 < n) (hn : n ≤ 100) (hf : ∀ p ∈ l, fitN p.1) :
    NumsAt W q 0 n n l g o :=
  ⟨hl, h0, hn, Nat.le_refl _, by omega, block_lt h, hf, fun k hk => by
    obtain ⟨h1, h2, h3, h4⟩ := numC_at (g := g) (o := o) l 0 k hk
    rw [Nat.zero_add] at h1
    rw [Nat.zero_add]
    refine ⟨?_, ?_, ?_, ?_⟩
    · rw [cell_of_row W q _ _ _ _ h, List.getElem?_toArray]; exact h1
    · rw [cell_of_row W q _ _ _ _ h, List.getElem?_toArray]; exact h2
    · rw [cell_of_row W q _ _ _ _ h, List.getElem?_toArray]; exact h3
    · rw [cell_of_row W q _ _ _ _ h, List.getElem?_toArray]; exact h4⟩

theorem fit_zip {ns : List NumS} (h : ∀ p ∈ ns, fitN p) (vs : List Int) : ∀ p ∈ ns.zip vs, fitN p.1 := fun p hp => h p.1 (List.of_mem_zip hp).1

/-! ### the lists -/
def numRow (W : World) (q : Nat) (cs : Array Value) : Prop := W.heap[q]? = some (.cells cs 56 (0, 0))

theorem results_num {fn : Func} {p : Tmp} (h : fn.results = #[.cell p 56]) (tmps : Array Value) (w : World) (g : Nat) (a b c d : Value)
    (hp : tmps.getD p undef = .pointer (some ⟨g, 0, none⟩)) (hg : numRow w g #[a, b, c, d]) : (results fn tmps).run Try.prog w = .ok (.agg #[a, b, c, d]) w :=
  results_cell_row h tmps w g _ #[a, b, c, d] (0, 0) _ hp hg Try.underlying56 rfl (by kernel_rfl)

set_option maxRecDepth 100000 in
theorem count_any (w : World) (b o : Nat) :
    Calls Try.prog 25 #[.pointer (some ⟨b, o, none⟩)] w fun e w' => e = .returned (.agg #[.pointer (some ⟨b, o, none⟩), .int .i64 4, .int .i64 3, .int .i64 2147483647]) ∧ Below w.heap.size w w' := by
  go_enter Try.func25, Try.ntmps25
  go_wp2
  refine bodyPost_ret (results_num Try.results25 _ _ w.heap.size _ _ _ _ rfl (heap_alloc_new w _)) rfl ?_
  exact ⟨rfl, (Below.refl _ _).alloc (Nat.le_refl _) _⟩

/-! ### the values -/
def o0 : Nat → Nat := fun _ => 0
def countB (n : Int) : List UInt8 := bldP (countS.zip [n])

end Go.Proofs.Ytoacgoelhidmbaa

/-
  Layer 8's Detail, Slot, Root, Count.
-/
namespace Go.Proofs.Ytoacgoelhidmbaa
open Go.RowKit
set_option linter.unusedVariables false
set_option linter.unusedSimpArgs false

theorem zip_bds {ns : List NumS} {vs : List Int} (h : ∀ v ∈ vs, i64b v) : ∀ p ∈ ns.zip vs, i64b p.2 := fun p hp => h p.2 (List.of_mem_zip hp).2

set_option maxRecDepth 100000 in
set_option maxHeartbeats 400000 in
theorem Count_any (w : World) (n : Int) (hn : i64b n) :
    Calls Try.prog 15 #[.int .i64 n] w fun e w' => e = .returned (.string ⟨(countB n).toArray⟩) ∧ Below w.heap.size w w' := by
  have MP := Lib.hid (count_any (w.alloc (.cells #[.int .i64 n] 3)) w.heap.size 0)
  have h1 := heap_alloc_new w (.cells #[.int .i64 n] 3)
  have hb0 : Below w.heap.size w (w.alloc (.cells #[.int .i64 n] 3)) := (Below.refl _ _).alloc (Nat.le_refl _) _
  have hz : (w.alloc (.cells #[.int .i64 n] 3)).heap.size = w.heap.size + 1 := by simp
  have BD : Hid (∀ (W : World), Below (w.heap.size + 1) (w.alloc (.cells #[.int .i64 n] 3)) W → 
      Calls Try.prog 24 #[.slice (some ⟨W.heap.size, 0, none⟩) 1 1] (W.alloc (.cells #[.pointer (some ⟨w.heap.size, 0, none⟩), .int .i64 4, .int .i64 3, .int .i64 2147483647] 56)) fun e w' => e = .returned (.string ⟨(countB n).toArray⟩) ∧ Below W.heap.size W w') := by
    intro W hW
    have hWb : Below W.heap.size W (W.alloc (.cells #[.pointer (some ⟨w.heap.size, 0, none⟩), .int .i64 4, .int .i64 3, .int .i64 2147483647] 56)) := (Below.refl _ _).alloc (Nat.le_refl _) _
    refine (build_any _ W.heap.size 0 1 1 (countS.zip [n]) (fun _ => w.heap.size) o0 (nums_new (heap_alloc_new W _) rfl (by omega) (by omega) (fit_zip countS_fit _)) ?_ (zip_bds ?_)).mono fun e w' h => ⟨h.1, hWb.trans (h.2.mono hWb.size)⟩
    · intro k hk
      have hsz := hW.size
      rw [hz] at hsz
      have e0 : (W.alloc (.cells #[.pointer (some ⟨w.heap.size, 0, none⟩), .int .i64 4, .int .i64 3, .int .i64 2147483647] 56)).heap[w.heap.size]? = _ := (hWb.block _ (by omega)).trans ((hW.block _ (by omega)).trans h1)
      have hk' : k < 1 := hk
      obtain rfl : k = 0 := by omega
      exact (cell_of_row _ w.heap.size _ _ _ _ e0).trans rfl
    · intro v hv
      simp only [List.mem_cons, List.mem_nil_iff, or_false] at hv
      subst hv
      exact hn
  have H0 := Lib.hid hb0
  have HZ := Lib.hid hz
  clear h1 hb0 hz hn
  go_enter Try.func15, Try.ntmps15
  go_wp2_with (first
    | (go_at_call 25; (with_reducible refine (MP.out).mono ?_); rintro e w1 ⟨rfl, hb1⟩; rw [HZ.out] at hb1)
    | (go_at_call 24; (with_reducible refine (BD.out w1 hb1).mono ?_); rintro e w2 ⟨rfl, hb2⟩))
  go_ret
  exact ⟨rfl, (H0.out.trans (hb1.mono (by omega))).trans (hb2.mono (Nat.le_trans H0.out.size hb1.size))⟩

end Go.Proofs.Ytoacgoelhidmbaa

/-
  Layer 8's read: what it reads, and where it writes.
-/
namespace Go.Proofs.Ytoacgoelhidmbaa
open Go.RowKit
set_option linter.unusedVariables false
set_option linter.unusedSimpArgs false

/-- what is read, beside its numbers -/
def psI (s : List UInt8) (ns : List NumS) : List Int := (partsN s ns).map fun k : Nat => (k : Int)
def rdL (s : List UInt8) (ns : List NumS) : List (NumS × Int) := ns.zip (psI s ns)
def sizeP (l : List (NumS × Int)) : Nat := (l.map (·.1.1)).sum

theorem rdL_cons (s : List UInt8) (p : NumS) (r : List NumS) : rdL s (p :: r) = (p, (leN (s.take p.1) : Int)) :: rdL (s.drop p.1) r := rfl
theorem rdL_length (s : List UInt8) (ns : List NumS) : (rdL s ns).length = ns.length := by
  simp [rdL, psI, partsN_length]
theorem sizeP_rdL (s : List UInt8) (ns : List NumS) : sizeP (rdL s ns) = sizeN ns := by
  induction ns generalizing s with
  | nil => rfl
  | cons p r ih =>
    have := ih (s.drop p.1)
    simp only [sizeP, sizeN, rdL_cons, List.map_cons, List.sum_cons] at *
    omega
theorem sizeP_step {l : List (NumS × Int)} {k : Nat} (h : k < l.length) : sizeP (l.take (k + 1)) = sizeP (l.take k) + l[k].1.1 := by
  rw [List.take_succ_eq_append_getElem h]
  simp only [sizeP, List.map_append, List.sum_append, List.map_cons, List.map_nil, List.sum_cons, List.sum_nil, Nat.add_zero]
theorem sizeP_le {l : List (NumS × Int)} (h : ∀ p ∈ l, p.1.1 ≤ 8) : sizeP l ≤ l.length * 8 := by
  induction l with
  | nil => simp [sizeP]
  | cons p r ih =>
    have h1 := ih fun q hq => h q (List.mem_cons_of_mem _ hq)
    have h2 := h p List.mem_cons_self
    simp only [sizeP, List.map_cons, List.sum_cons, List.length_cons] at *
    omega
theorem sizeP_take_le (l : List (NumS × Int)) (k : Nat) : sizeP (l.take k) ≤ sizeP l := by
  conv => rhs; rw [← List.take_append_drop k l]
  simp only [sizeP, List.map_append, List.sum_append]
  omega
theorem rdL_at : ∀ (ns : List NumS) (s : List UInt8) (k : Nat) (h : k < (rdL s ns).length), (rdL s ns)[k].2 = (leN ((s.drop (sizeP ((rdL s ns).take k))).take (rdL s ns)[k].1.1) : Int)
  | [], _, _, h => by cases h
  | p :: r, s, 0, _ => rfl
  | p :: r, s, k + 1, h => by
    have := rdL_at r (s.drop p.1) k (by simpa [rdL_cons] using h)
    simp only [rdL_cons, List.getElem_cons_succ, List.take_succ_cons]
    rw [this, List.drop_drop]
    simp [sizeP]
theorem psI_rdL (s : List UInt8) (ns : List NumS) : (rdL s ns).map (·.2) = psI s ns := by
  rw [rdL, List.map_snd_zip]
  simp [psI, partsN_length]
theorem okR_rdL (s : List UInt8) (ns : List NumS) : okR s ns = okP (rdL s ns) := rfl

theorem val_get_in {l : List UInt8} (hl : l.length = 8) : (leN l < 9223372036854775808 → getE l 0 8 = 0 ∧ getN l 0 8 = (leN l : Int)) ∧ (9223372036854775808 ≤ leN l → getE l 0 8 = 2 ∧ getN l 0 8 = 0) := by
  have hr : roomE l.length 0 8 = 0 := by
    rw [hl]
    rfl
  have hp : part l 0 8 = l := by
    simp only [part]
    exact List.take_of_length_le (by rw [List.length_drop, hl]; decide)
  constructor
  · intro h
    have he : getE l 0 8 = 0 := by rw [getE, if_pos hr, hp, if_neg (by omega)]
    exact ⟨he, by rw [getN, if_pos he, hp]⟩
  · intro h
    have he : getE l 0 8 = 2 := by rw [getE, if_pos hr, hp, if_pos h]
    exact ⟨he, by rw [getN, if_neg (by rw [he]; omega)]⟩

/-- all but some blocks as they were -/
structure Frm (G : Nat → Prop) (w w' : World) : Prop where
  os : w'.os = w.os
  tape : w'.tape = w.tape
  output : w'.output = w.output
  size : w.heap.size ≤ w'.heap.size
  block : ∀ q, q < w.heap.size → ¬ G q → w'.heap[q]? = w.heap[q]?
theorem Frm.of_below {G : Nat → Prop} {w w' : World} (h : Below w.heap.size w w') : Frm G w w' := ⟨h.os, h.tape, h.output, h.size, fun q hq _ => h.block q hq⟩
theorem Frm.trans {G : Nat → Prop} {a b c : World} (h : Frm G a b) (k : Frm G b c) : Frm G a c :=
  ⟨k.os.trans h.os, k.tape.trans h.tape, k.output.trans h.output, Nat.le_trans h.size k.size, fun q hq hg => (k.block q (Nat.lt_of_lt_of_le hq h.size) hg).trans (h.block q hq hg)⟩
theorem Frm.set {G : Nat → Prop} {w0 w : World} (h : Frm G w0 w) {p : Addr} (hp : G p.block) (v : Value) : Frm G w0 (w.setCell p v) :=
  ⟨h.os, h.tape, h.output, by simpa [World.setCell] using h.size, fun q hq hg => (Below.heap_setCell w p v q (fun e => hg (e ▸ hp))).trans (h.block q hq hg)⟩
theorem Frm.below {G : Nat → Prop} {a w w' : World} (h : Frm G w w') (hb : Below a.heap.size a w) (hG : ∀ q, G q → a.heap.size ≤ q) : Below a.heap.size a w' :=
  ⟨h.os.trans hb.os, h.tape.trans hb.tape, h.output.trans hb.output, Nat.le_trans hb.size h.size, fun q hq => (h.block q (Nat.lt_of_lt_of_le hq hb.size) (fun e => by have := hG q e; omega)).trans (hb.block q hq)⟩

/-- where the pointers lead: cells that may be written, each another -/
structure TgtAt (w : World) (n : Nat) (g o : Nat → Nat) : Prop where
  row : ∀ k, k < n → ∃ cs t, w.heap[g k]? = some (.cells cs t (0, 0)) ∧ o k < cs.size
  apart : ∀ i j, i < j → j < n → (⟨g i, o i, none⟩ : Addr) ≠ ⟨g j, o j, none⟩
def tgtG (n : Nat) (g : Nat → Nat) : Nat → Prop := fun q => ∃ k, k < n ∧ g k = q
theorem TgtAt.later {w w' : World} {n : Nat} {g o : Nat → Nat} (h : TgtAt w n g o) (hb : Below w.heap.size w w') : TgtAt w' n g o :=
  ⟨fun k hk => by obtain ⟨cs, t, e, hs⟩ := h.row k hk; exact ⟨cs, t, (hb.block _ (block_lt e)).trans e, hs⟩, h.apart⟩
theorem TgtAt.lt {w : World} {n : Nat} {g o : Nat → Nat} (h : TgtAt w n g o) {k : Nat} (hk : k < n) : g k < w.heap.size := by
  obtain ⟨cs, t, e, hs⟩ := h.row k hk
  exact block_lt e
theorem TgtAt.cell {w : World} {n : Nat} {g o : Nat → Nat} (h : TgtAt w n g o) {k : Nat} (hk : k < n) : (∃ v, w.cell? ⟨g k, o k, none⟩ = some v) ∧ w.frozen? ⟨g k, o k, none⟩ = false := by
  obtain ⟨cs, t, e, hs⟩ := h.row k hk
  refine ⟨⟨cs[o k], ?_⟩, Lib.frozen_of_heap e _⟩
  rw [cell_of_row w _ _ _ _ _ e]
  exact Array.getElem?_eq_getElem hs
theorem TgtAt.set {w : World} {n : Nat} {g o : Nat → Nat} (h : TgtAt w n g o) {k : Nat} (hk : k < n) (v : Value) : TgtAt (w.setCell ⟨g k, o k, none⟩ v) n g o := by
  refine ⟨fun j hj => ?_, h.apart⟩
  obtain ⟨cs, t, e, hs⟩ := h.row j hj
  by_cases hg : g j = g k
  · rw [hg] at e ⊢
    exact ⟨_, t, heap_setCell_same w _ _ _ _ _ e, by simpa using hs⟩
  · exact ⟨cs, t, (Below.heap_setCell w _ _ _ hg).trans e, hs⟩
theorem TgtAt.drew {w : World} {n : Nat} {g o : Nat → Nat} (h : TgtAt w n g o) : TgtAt w.drew n g o := ⟨h.row, h.apart⟩
theorem Frm.drew {G : Nat → Prop} {w0 w : World} (h : Frm G w0 w) : Frm G w0 w.drew := ⟨h.os, h.tape, h.output, h.size, h.block⟩
/-- one value more is written -/
theorem tgt_step {W2 wr : World} {n k : Nat} {g o : Nat → Nat} {l : List (NumS × Int)} (hT : TgtAt wr n g o) (hF : Frm (tgtG n g) W2 wr) (hD : ∀ j (h : j < l.length), j < k → wr.cell? ⟨g j, o j, none⟩ = some (.int .i64 l[j].2)) (hl : l.length = n) (hk : k < l.length) (ob : Obj) :
    TgtAt ((wr.alloc ob).setCell ⟨g k, o k, none⟩ (.int .i64 l[k].2)).drew n g o ∧ Frm (tgtG n g) W2 ((wr.alloc ob).setCell ⟨g k, o k, none⟩ (.int .i64 l[k].2)).drew ∧
      ∀ j (h : j < l.length), j < k + 1 → ((wr.alloc ob).setCell ⟨g k, o k, none⟩ (.int .i64 l[k].2)).drew.cell? ⟨g j, o j, none⟩ = some (.int .i64 l[j].2) := by
  have hb : Below wr.heap.size wr (wr.alloc ob) := (Below.refl _ _).alloc (Nat.le_refl _) ob
  have hT1 := hT.later hb
  refine ⟨(hT1.set (by omega) _).drew, ((hF.trans (Frm.of_below hb)).set ⟨k, by omega, rfl⟩ _).drew, fun j hj hjk => ?_⟩
  change ((wr.alloc ob).setCell ⟨g k, o k, none⟩ (.int .i64 l[k].2)).cell? ⟨g j, o j, none⟩ = some (.int .i64 l[j].2)
  by_cases e : j = k
  · subst e
    obtain ⟨⟨v, hv⟩, _⟩ := hT1.cell (k := j) (by omega)
    exact World.cell?_setCell_same _ _ _ hv
  · rw [World.cell?_setCell_other _ _ _ _ (fun h => by have := hT.apart j k (by omega) (by omega); exact this h.symm)]
    have h0 := hD j hj (by omega)
    exact (hb.cell (p := ⟨g j, o j, none⟩) (cell_lt h0)).trans h0

end Go.Proofs.Ytoacgoelhidmbaa
