/-
  Joined: SizLawC.
-/
import Derived.Test.YtcmehjjaologpaaJSiz22
import Derived.Test.YtcmehjjaologpaaJSiz23
import Derived.Test.YtcmehjjaologpaaJSiz17
import Derived.Test.YtcmehjjaologpaaJSiz00
import Derived.Test.YtcmehjjaologpaaJSiz03
/-
  Layer 20: SizeGrows.
-/
namespace Go.Proofs.Ytcmehjjaologpaa
open Go.RowKit
set_option linter.unusedVariables false
set_option linter.unusedSimpArgs false

theorem build_map20 (x y : Int) (w : World) : (Instr.build 38 #[(0, .int .i64 x), (1, .int .i64 y)]).run Try.prog w = .ok (.agg #[.int .i64 x, .int .i64 y, .int .i64 0]) w := run_build w _ _ _ (by kernel_rfl)
/-- both pools of the walk: one in its variable, a copy in another -/
structure Gq20 (w W : World) (p : Pol18) (A : Option Addr) (n c b7 g c7 : Nat) (L : List DevL18) : Prop where
  P : Vp20 w W (.int .i64 p.tx) (.int .i64 p.time) (.int .i64 p.unit) (.int .i64 p.data) (.slice A n c)
  Q : PolC W b7 (.int .i64 p.tx) (.int .i64 p.time) (.int .i64 p.unit) (.int .i64 p.data) (.slice (some ⟨g, 0, none⟩) n c7)
  O : OwnD18 W (w.heap.size + 1) (.slice (some ⟨g, 0, none⟩) n c7) n L
  m : L.map (·.1) = p.devs
  lt : w.heap.size < b7
theorem Gq20.later {w W W' : World} {p : Pol18} {A : Option Addr} {n c b7 g c7 : Nat} {L : List DevL18} (h : Gq20 w W p A n c b7 g c7 L) (hb : Below W.heap.size W W') : Gq20 w W' p A n c b7 g c7 L :=
  ⟨h.P.later hb, (hb.block _ (block_lt h.Q)).trans h.Q, h.O.later hb, h.m, h.lt⟩
theorem Gq20.start {w X : World} {p : Pol18} {A : Option Addr} {n c g c7 B : Nat} {L : List DevL18} (hP : Vp20 w X (.int .i64 p.tx) (.int .i64 p.time) (.int .i64 p.unit) (.int .i64 p.data) (.slice A n c)) (hO : OwnD18 X B (.slice (some ⟨g, 0, none⟩) n c7) n L) (hB : w.heap.size + 1 ≤ B) (hm : L.map (·.1) = p.devs) :
    Gq20 w (X.alloc (.cells #[.int .i64 p.tx, .int .i64 p.time, .int .i64 p.unit, .int .i64 p.data, .slice (some ⟨g, 0, none⟩) n c7] 24)) p A n c X.heap.size g c7 L :=
  ⟨hP.later ((Below.refl _ _).alloc (Nat.le_refl _) _), heap_alloc_new X _,
   have hl := hO.later ((Below.refl X.heap.size X).alloc (Nat.le_refl _) (.cells #[.int .i64 p.tx, .int .i64 p.time, .int .i64 p.unit, .int .i64 p.data, .slice (some ⟨g, 0, none⟩) n c7] 24))
   ⟨own_mono18 hl.row hB, fun k hk => own_mono18 (hl.each k hk) hB, hl.two⟩, hm, hP.size⟩

def dev20 (d : Dev18) (x : Int × Int × Int) : Dev18 := ⟨d.id, d.tx, d.made, d.snap, d.maps ++ [x]⟩
/-- the copy with a mapping more, and the pool -/
structure Fq20 (w W : World) (p q : Pol18) (A : Option Addr) (n c b7 g c7 : Nat) : Prop where
  P : Vp20 w W (.int .i64 p.tx) (.int .i64 p.time) (.int .i64 p.unit) (.int .i64 p.data) (.slice A n c)
  Q : PolC W b7 (.int .i64 p.tx) (.int .i64 p.time) (.int .i64 p.unit) (.int .i64 p.data) (.slice (some ⟨g, 0, none⟩) n c7)
  D : Dvs W (some ⟨g, 0, none⟩) n c7 q.devs
theorem Fq20.later {w W W' : World} {p q : Pol18} {A : Option Addr} {n c b7 g c7 : Nat} (h : Fq20 w W p q A n c b7 g c7) (hb : Below W.heap.size W W') : Fq20 w W' p q A n c b7 g c7 :=
  ⟨h.P.later hb, (hb.block _ (block_lt h.Q)).trans h.Q, h.D.below hb⟩
theorem types_ne20 {W : World} {k : Nat} {t u : TypeId} {xs ys : Array Value} (h1 : W.heap[k]? = some (.cells xs t (0, 0))) (h2 : W.heap[k]? = some (.cells ys u (0, 0))) (hne : t ≠ u) : False := by
  rw [h1] at h2
  injection h2 with h2
  injection h2 with _ e3 _
  exact hne e3
theorem Gq20.grow {w X Y : World} {p : Pol18} {A : Option Addr} {n c b7 g c7 : Nat} {L : List DevL18} (h : Gq20 w X p A n c b7 g c7 L) {K : Nat} (hK : K < L.length) {xd : Dev18} {A9 : Option Addr} {m c9 : Nat} (hx : L[K] = (xd, A9, m, c9)) {x : Int × Int × Int} {g7 cap7 : Nat}
    (hown : Y.ownsRow (w.heap.size + 1) 38 3 (.slice (some ⟨g7, 0, none⟩) (m + 1) cap7) (m + 1) (triC xd.maps ++ [.int .i64 x.1, .int .i64 x.2.1, .int .i64 x.2.2])) (hg : X.grownBy Y (Value.slice A9 m c9).ownBlock) :
    Fq20 w (Y.setCell ⟨g, K * 5 + 4, none⟩ (.slice (some ⟨g7, 0, none⟩) (m + 1) cap7)) p (more20 p K (dev20 xd x)) A n c b7 g c7 ∧ (∀ j v, j < n * 5 → (devC18 L)[j]? = some v → Y.cell? ⟨g, j, none⟩ = some v ∧ Y.frozen? ⟨g, j, none⟩ = false) ∧ Y.cell? ⟨w.heap.size, 3, none⟩ = some (.int .i64 p.data) := by
  have hek := h.O.each K hK
  rw [rowV18, hx] at hek
  have hek : X.ownsRow (w.heap.size + 1) 38 3 (.slice A9 m c9) m (triC xd.maps) := hek
  have hrow : Y.ownsRow (w.heap.size + 1) 36 5 (.slice (some ⟨g, 0, none⟩) n c7) n (devC18 L) := own_grown18 h.O.row hek (by decide) hg
  have hgb : w.heap.size + 1 ≤ g := (own_apartS hrow g rfl).1
  have hne : ∀ k, (Value.slice A9 m c9).ownBlock = some k → w.heap.size + 1 ≤ k := fun k hk => (own_apartS hek k hk).1
  have hbel : Below w.heap.size X Y := ⟨hg.os, hg.tape, hg.output, hg.size, fun k hk => hg.block k (by have := h.P.size; omega) (fun e => by have := hne k e.symm; omega)⟩
  have hPr : PolC Y w.heap.size (.int .i64 p.tx) (.int .i64 p.time) (.int .i64 p.unit) (.int .i64 p.data) (.slice A n c) := (hg.block _ h.P.size (fun e => by have := hne _ e.symm; omega)).trans h.P.row
  have hQr : PolC Y b7 (.int .i64 p.tx) (.int .i64 p.time) (.int .i64 p.unit) (.int .i64 p.data) (.slice (some ⟨g, 0, none⟩) n c7) := (hg.block _ (block_lt h.Q) (fun e => by
    obtain ⟨_, cur, hc⟩ := own_apartS hek b7 e.symm
    exact types_ne20 h.Q hc (by decide))).trans h.Q
  have hgb7 : b7 ≠ g := fun e => by
    subst e
    obtain ⟨_, cur, hc⟩ := own_apartS hrow b7 rfl
    exact types_ne20 hQr hc (by decide)
  refine ⟨⟨⟨?_, ?_⟩, ?_, ?_⟩, fun j v hj hv => ⟨own_at18 hrow hv, own_cell18 hrow j⟩, hPr.cs.2.2.2.1⟩
  · exact (heap_setCell_other _ _ _ _ (by show ¬ w.heap.size = g; omega)).trans hPr
  · exact (h.P.bel.trans hbel).setCell (by show w.heap.size ≤ g; omega) _
  · exact (heap_setCell_other _ _ _ _ (by show ¬ b7 = g; exact hgb7)).trans hQr
  · have hgw : X.grownBy Y (rowV18 L[K]).ownBlock := by rw [rowV18, hx]; exact hg
    have := own20_grow (Y := Y) h.O hK (dev20 xd x) (by rw [hx]; rfl) (by rw [hx]; rfl) (by rw [hx]; rfl) (by rw [hx]; rfl) (g7 := g7) (m7 := m + 1) (cap7 := cap7) (by
      show Y.ownsRow _ _ _ _ _ (triC (xd.maps ++ [x]))
      rw [triC_append]
      exact hown) hgw
    rw [h.m] at this
    exact this

/-- what is promised of a pool with a mapping more -/
def Fin20 (p q : Pol18) : Prop := chkE18 q = 0 ∧ base20 p ≤ base20 q ∧ needL20 p ≤ needL20 q ∧ 0 < needL20 q
theorem fin20 {p : Pol18} {K J : Nat} {v : Int} (h : chkE18 p = 0) (hK : K < p.devs.length) (hc : cnt18 p.devs ≤ 2000) (hJ : (J : Int) < p.data) (hv : 0 ≤ v ∧ v ≤ 281474976710655) (hl : ∀ y, last20 none (p.devs.getD K default).maps = some y → y < v) : Fin20 p (more20 p K (dev20 (p.devs.getD K default) (v, (J : Int), 0))) := by
  have hx : mapR18 p.data (v, (J : Int), 0) = true := by
    unfold mapR18
    simp only [Bool.and_eq_true, in18_yes]
    omega
  have hq := more20_chk (d := dev20 (p.devs.getD K default) (v, (J : Int), 0)) h hK (by omega) rfl rfl rfl rfl rfl hx hl
  have hg := more20_grows h hq hK rfl
  obtain ⟨b1, b2⟩ := sum20_bounds h
  obtain ⟨b3, b4⟩ := sum20_bounds hq
  refine ⟨hq, ?_, ?_, ?_⟩
  · rw [(base20_good h).1, (base20_good hq).1]; exact hg
  · rw [(base20_good h).2, (base20_good hq).2]; exact need20_mono hg
  · rw [(base20_good hq).2]
    have := need20_more (base := sum20 (more20 p K (dev20 (p.devs.getD K default) (v, (J : Int), 0)))) (by omega)
    omega
/-- the last mapping of a device of a good pool -/
theorem last20_in {p : Pol18} {K : Nat} (h : chkE18 p = 0) (hK : K < p.devs.length) {k : Nat} (hk : k < (p.devs.getD K default).maps.length) : 0 ≤ ((p.devs.getD K default).maps.getD k (0, 0, 0)).1 ∧ ((p.devs.getD K default).maps.getD k (0, 0, 0)).1 ≤ 281474976710655 := by
  obtain ⟨_, _, _, h3⟩ := chk20_parts h
  have hm : p.devs.getD K default ∈ p.devs := by
    rw [List.getD_eq_getElem?_getD, List.getElem?_eq_getElem hK]
    exact List.getElem_mem hK
  have h5 := (devsE18_range h3 _ hm).2
  have h6 := mapsE18_range h5 ((p.devs.getD K default).maps.getD k (0, 0, 0)) (by rw [getD18 hk]; exact List.getElem_mem hk)
  unfold mapR18 at h6
  simp only [Bool.and_eq_true, in18_yes] at h6
  exact h6.1.1

set_option maxRecDepth 100000 in
set_option maxHeartbeats 3200000 in
theorem sizegrows_walk (A : Option Addr) (n c : Nat) (p : Pol18) (i b : Int) (w : World) (h : Dvs w A n c p.devs) (hbd : p.bd) (hib : -9223372036854775808 ≤ i ∧ i ≤ 9223372036854775807) (hbb : -9223372036854775808 ≤ b ∧ b ≤ 9223372036854775807) :
    Calls Try.prog 5 #[polV18 p A n c, .int .i64 i, .int .i64 b] w fun e w' => e = .returned (.bool true) ∧ Below w.heap.size w w' := by
  obtain ⟨W0, hW0⟩ : ∃ W0, w.alloc (.cells #[.int .i64 p.tx, .int .i64 p.time, .int .i64 p.unit, .int .i64 p.data, .slice A n c] 24) = W0 := ⟨_, rfl⟩
  have hV0 : Vp20 w W0 (.int .i64 p.tx) (.int .i64 p.time) (.int .i64 p.unit) (.int .i64 p.data) (.slice A n c) := by rw [← hW0]; exact Vp20.new w _ _ _ _ _
  have HV0 := Lib.hid hV0
  have FW : Hid (∀ W, Hid (Vp20 w W (.int .i64 p.tx) (.int .i64 p.time) (.int .i64 p.unit) (.int .i64 p.data) (.slice A n c)) → Calls Try.prog 6 #[polV18 p A n c] W fun e w' => e = .returned (.int .i64 (if few18 p = true then 1 else 0)) ∧ Hid (Vp20 w w' (.int .i64 p.tx) (.int .i64 p.time) (.int .i64 p.unit) (.int .i64 p.data) (.slice A n c))) := fun W hV => (Few_any18 p A n c W (h.below hV.out.bel) (fun d hd => (hbd.2.2.2.2.1 d hd).2.2.2.2.2)).mono fun e w' ⟨h1, h2⟩ => ⟨h1, hV.out.later h2⟩
  have LV : Hid (∀ W, Hid (Vp20 w W (.int .i64 p.tx) (.int .i64 p.time) (.int .i64 p.unit) (.int .i64 p.data) (.slice A n c)) → Calls Try.prog 7 #[] W fun e w' => e = .returned (.bool true) ∧ Hid (Vp20 w w' (.int .i64 p.tx) (.int .i64 p.time) (.int .i64 p.unit) (.int .i64 p.data) (.slice A n c))) := fun W hV => (lives20_any W).mono fun e w' ⟨h1, h2⟩ => ⟨h1, hV.out.later h2⟩
  obtain ⟨c0, c1, c2, c3, c4⟩ := hV0.row.cs
  have hle : n ≤ 9223372036854775807 := Nat.le_trans h.cap h.most
  have hl := h.len
  unfold polV18 at FW
  cases hf : few18 p with
  | false =>
    rw [hf] at FW
    clear h hbd hV0 hf hib hbb
    unfold polV18
    go_enter Try.func5, Try.ntmps5
    go_wp2_with (first
      | (go_at_call 6; (with_reducible refine (FW.out _ HV0).mono ?_); rintro e w1 ⟨rfl, HV1⟩; obtain ⟨a0, a1, a2, a3, a4⟩ := HV1.out.row.cs)
      | (go_at_call 7; (with_reducible refine (LV.out _ HV1).mono ?_); rintro e w9 ⟨rfl, HV9⟩))
    go_ret
    exact ⟨rfl, HV9.out.bel⟩
  | true =>
    rw [hf] at FW
    obtain ⟨hf1, hf2⟩ := few18_yes.1 hf
    have hc : cnt18 p.devs ≤ 1000000 := by omega
    have CK : Hid (∀ W, Hid (Vp20 w W (.int .i64 p.tx) (.int .i64 p.time) (.int .i64 p.unit) (.int .i64 p.data) (.slice A n c)) → Calls Try.prog 16 #[polV18 p A n c] W fun e w' => e = .returned (.int .i64 (chkE18 p)) ∧ Hid (Vp20 w w' (.int .i64 p.tx) (.int .i64 p.time) (.int .i64 p.unit) (.int .i64 p.data) (.slice A n c))) := fun W hV => (Check_any18 p A n c W (h.below hV.out.bel) hc).mono fun e w' ⟨h1, h2⟩ => ⟨h1, hV.out.later h2⟩
    unfold polV18 at CK
    by_cases hv : chkE18 p = 0
    · obtain ⟨hD0, hD1⟩ := chk20_data hv
      rw [hv] at CK
      by_cases hn0 : n = 0
      · subst hn0
        clear h hbd hV0 hf hib hbb hf1 hf2 hc hv hD0 hD1
        unfold polV18
        go_enter Try.func5, Try.ntmps5
        go_wp2_with (first
          | (go_at_call 6; (with_reducible refine (FW.out _ HV0).mono ?_); rintro e w1 ⟨rfl, HV1⟩; obtain ⟨a0, a1, a2, a3, a4⟩ := HV1.out.row.cs)
          | (go_at_call 16; (with_reducible refine (CK.out _ HV1).mono ?_); rintro e w2 ⟨rfl, HV2⟩; obtain ⟨b0, b1, b2, b3, b4⟩ := HV2.out.row.cs)
          | (go_at_call 7; (with_reducible refine (LV.out _ HV2).mono ?_); rintro e w9 ⟨rfl, HV9⟩))
        go_ret
        exact ⟨rfl, HV9.out.bel⟩
      · by_cases hd0 : p.data = 0
        · have hnb : ((n : Int) == 0) = false := by simpa using hn0
          rw [hd0] at CK FW LV HV0 c3
          clear h hbd hV0 hf hib hbb hf1 hf2 hc hv hD0 hD1
          unfold polV18
          rw [hd0]
          rw [hd0] at hW0
          go_enter Try.func5, Try.ntmps5
          go_wp2_with (first
            | (go_at_call 6; (with_reducible refine (FW.out _ HV0).mono ?_); rintro e w1 ⟨rfl, HV1⟩; obtain ⟨a0, a1, a2, a3, a4⟩ := HV1.out.row.cs)
            | (go_at_call 16; (with_reducible refine (CK.out _ HV1).mono ?_); rintro e w2 ⟨rfl, HV2⟩; obtain ⟨b0, b1, b2, b3, b4⟩ := HV2.out.row.cs)
            | (go_at_call 7; (with_reducible refine (LV.out _ HV2).mono ?_); rintro e w9 ⟨rfl, HV9⟩))
          go_ret
          exact ⟨rfl, HV9.out.bel⟩
        · obtain ⟨D, hD⟩ := Int.eq_ofNat_of_zero_le hD0
          have hnp : 0 < n := by omega
          have hn6 : n ≤ 1000000 := by omega
          have hD9 : 0 < p.data := by omega
          have hnb : ((n : Int) == 0) = false := by simpa using hn0
          have hnz : ¬ (n : Int) = 0 := by omega
          have hdb : (p.data == 0) = false := by simpa using hd0
          obtain ⟨Kd, hKn, hK⟩ := idx18 i hnp hn6
          obtain ⟨J, hJD, hJ⟩ := idx18 b (n := D) (by omega) (by omega)
          rw [← hD] at hJ
          have CP : Hid (∀ W, Hid (Vp20 w W (.int .i64 p.tx) (.int .i64 p.time) (.int .i64 p.unit) (.int .i64 p.data) (.slice A n c)) → Calls Try.prog 17 #[.agg #[.int .i64 p.tx, .int .i64 p.time, .int .i64 p.unit, .int .i64 p.data, .slice A n c]] W fun e w' => ∃ g c' L, e = .returned (.agg #[.int .i64 p.tx, .int .i64 p.time, .int .i64 p.unit, .int .i64 p.data, .slice (some ⟨g, 0, none⟩) n c']) ∧ Hid (Gq20 w (w'.alloc (.cells #[.int .i64 p.tx, .int .i64 p.time, .int .i64 p.unit, .int .i64 p.data, .slice (some ⟨g, 0, none⟩) n c'] 24)) p A n c w'.heap.size g c' L)) := fun W hV => by
            refine (Copy_any18 p A n c W (h.below hV.out.bel) hn6 hc).mono ?_
            rintro e w' ⟨A', c', L, h1, h2, h3, h4⟩
            obtain ⟨g, rfl, _, _⟩ := own_form18 h2.row hnp
            exact ⟨g, c', L, h1, Gq20.start (hV.out.later h4) h2 (by have := hV.out.size; omega) h3⟩
          have HH := Lib.hid h
          have HD := Lib.hid hD
          have HVV := Lib.hid hv
          have hl2 := hl
          clear h hbd hV0 hf hf1 hv hn0 hd0 hD hl
          unfold polV18
          go_enter Try.func5, Try.ntmps5
          go_wp2_with (first
            | (go_at_call 6; (with_reducible refine (FW.out _ HV0).mono ?_); rintro e w1 ⟨rfl, HV1⟩; obtain ⟨a0, a1, a2, a3, a4⟩ := HV1.out.row.cs)
            | (go_at_call 16; (with_reducible refine (CK.out _ HV1).mono ?_); rintro e w2 ⟨rfl, HV2⟩; obtain ⟨b0, b1, b2, b3, b4⟩ := HV2.out.row.cs)
            | (go_at_call 17; (with_reducible refine (CP.out _ HV2).mono ?_); rintro e w3 ⟨g, c7, L, rfl, HG⟩; obtain ⟨q0, q1, q2, q3, q4⟩ := HG.out.Q.cs; obtain ⟨d0, d1, d2, d3, d4⟩ := HG.out.P.row.cs))
          have hxd : ∃ xd A9 m c9, L[Kd]'(by have := HG.out.O.len; omega) = (xd, A9, m, c9) := ⟨_, _, _, _, rfl⟩
          obtain ⟨xd, A9, m, c9, hx⟩ := hxd
          have hKL : Kd < L.length := by have := HG.out.O.len; omega
          have hKp : Kd < p.devs.length := by omega
          have hdev : xd = p.devs.getD Kd default := by
            have e := congrArg (fun l => l.getD Kd default) HG.out.m
            simp only [List.getD_eq_getElem?_getD, List.getElem?_map, List.getElem?_eq_getElem hKL, Option.map_some, Option.getD_some] at e
            rw [hx] at e
            rw [List.getD_eq_getElem?_getD]
            exact e
          have hek := HG.out.O.each Kd hKL
          rw [rowV18, hx] at hek
          replace hek : (w3.alloc (.cells #[.int .i64 p.tx, .int .i64 p.time, .int .i64 p.unit, .int .i64 p.data, .slice (some ⟨g, 0, none⟩) n c7] 24)).ownsRow (w.heap.size + 1) 38 3 (.slice A9 m c9) m (triC xd.maps) := hek
          have hmk : xd.maps.length = m := by
            have := hek.1
            rw [triC_length] at this
            omega
          have hm2 : m ≤ 2000 := by
            have h1 := cnt18_take (ds := p.devs) (k := Kd) hKp
            have h2 := cnt18_le (ds := p.devs) (Kd + 1)
            have h3 : (p.devs.getD Kd zero18).maps.length = m := by
              rw [getD18 hKp, ← hmk, hdev, getD18 hKp]
            omega
          have y4 := own_at18 HG.out.O.row (devC18_at L Kd hKL).2.2.2.2
          rw [rowV18, hx] at y4
          replace y4 : (w3.alloc (.cells #[.int .i64 p.tx, .int .i64 p.time, .int .i64 p.unit, .int .i64 p.data, .slice (some ⟨g, 0, none⟩) n c7] 24)).cell? ⟨g, Kd * 5 + 4, none⟩ = some (.slice A9 m c9) := y4
          have hcap : m ≤ c9 := by obtain ⟨_, _, e, h1, _⟩ := ownsRow_form hek; cases e; exact h1
          have hc9 : c9 ≤ 9223372036854775807 := by obtain ⟨_, _, e, _, h1⟩ := ownsRow_form hek; cases e; exact Nat.le_trans h1 (by decide)
          have FIN := Lib.hid (fun (v : Int) => fin20 (p := p) (K := Kd) (J := J) (v := v) HVV.out hKp hf2 (by have := HD.out; omega))
          rw [← hdev] at FIN
          have LI := Lib.hid (fun (k : Nat) => last20_in (p := p) (K := Kd) (k := k) HVV.out hKp)
          rw [← hdev] at LI
          have HX := Lib.hid hx
          have HEK := Lib.hid hek
          clear hx hek hdev CK CP FW HV0 HV1 a0 a1 a2 a3 a4 b0 b1 b2 b3 b4 c0 c1 c2 c3 c4
          generalize hw4 : w3.alloc (.cells #[.int .i64 p.tx, .int .i64 p.time, .int .i64 p.unit, .int .i64 p.data, .slice (some ⟨g, 0, none⟩) n c7] 24) = w4 at *
          generalize w3.heap.size = b7 at *
          go_quiet (fail)
          have HG5 := Lib.hid (HG.out.later (below_drewN (Below.refl w4.heap.size w4) nq))
          have HEK5 := Lib.hid (own_keptS HEK.out fun k _ hk => (below_drewN (Below.refl w4.heap.size w4) nq).block k hk)
          have z4 := ((below_drewN (Below.refl w4.heap.size w4) nq).cell (cell_lt y4)).trans y4
          clear HEK q0 q1 q2 q3 q4 d0 d1 d2 d3 d4 y4 hw4
          generalize w4.drewN nq = w5 at *
          obtain ⟨q0, q1, q2, q3, q4⟩ := HG5.out.Q.cs
          obtain ⟨d0, d1, d2, d3, d4⟩ := HG5.out.P.row.cs
          by_cases hm0 : m = 0
          · subst hm0
            have hnil : xd.maps = [] := List.eq_nil_of_length_eq_zero hmk
            -- REST0
            have hF := FIN.out 0 ⟨by omega, by omega⟩ (fun y hy => by rw [hnil] at hy; cases hy)
            have hcq : cnt18 (more20 p Kd (dev20 xd (0, (J : Int), 0))).devs ≤ 1000000 := by obtain ⟨_, _, h3, _⟩ := chk20_parts hF.1; omega
            have BQ : Hid (∀ W, Hid (Fq20 w W p (more20 p Kd (dev20 xd (0, (J : Int), 0))) A n c b7 g c7) → Calls Try.prog 10 #[.agg #[.int .i64 p.tx, .int .i64 p.time, .int .i64 p.unit, .int .i64 p.data, .slice (some ⟨g, 0, none⟩) n c7]] W fun e w' => e = .returned (.int .i64 (base20 (more20 p Kd (dev20 xd (0, (J : Int), 0))))) ∧ Hid (Fq20 w w' p (more20 p Kd (dev20 xd (0, (J : Int), 0))) A n c b7 g c7)) := fun W hF => (Base_any20 (more20 p Kd (dev20 xd (0, (J : Int), 0))) (some ⟨g, 0, none⟩) n c7 W hF.out.D hcq).mono fun e w' ⟨h1, h2⟩ => ⟨h1, hF.out.later h2⟩
            have BP : Hid (∀ W, Hid (Fq20 w W p (more20 p Kd (dev20 xd (0, (J : Int), 0))) A n c b7 g c7) → Calls Try.prog 10 #[.agg #[.int .i64 p.tx, .int .i64 p.time, .int .i64 p.unit, .int .i64 p.data, .slice A n c]] W fun e w' => e = .returned (.int .i64 (base20 p)) ∧ Hid (Fq20 w w' p (more20 p Kd (dev20 xd (0, (J : Int), 0))) A n c b7 g c7)) := fun W hF => (Base_any20 p A n c W (HH.out.below hF.out.P.bel) hc).mono fun e w' ⟨h1, h2⟩ => ⟨h1, hF.out.later h2⟩
            have NQ : Hid (∀ W, Hid (Fq20 w W p (more20 p Kd (dev20 xd (0, (J : Int), 0))) A n c b7 g c7) → Calls Try.prog 12 #[.agg #[.int .i64 p.tx, .int .i64 p.time, .int .i64 p.unit, .int .i64 p.data, .slice (some ⟨g, 0, none⟩) n c7]] W fun e w' => e = .returned (.int .i64 (needL20 (more20 p Kd (dev20 xd (0, (J : Int), 0))))) ∧ Hid (Fq20 w w' p (more20 p Kd (dev20 xd (0, (J : Int), 0))) A n c b7 g c7)) := fun W hF => (Need_any20 (more20 p Kd (dev20 xd (0, (J : Int), 0))) (some ⟨g, 0, none⟩) n c7 W hF.out.D hcq).mono fun e w' ⟨h1, h2⟩ => ⟨h1, hF.out.later h2⟩
            have NP : Hid (∀ W, Hid (Fq20 w W p (more20 p Kd (dev20 xd (0, (J : Int), 0))) A n c b7 g c7) → Calls Try.prog 12 #[.agg #[.int .i64 p.tx, .int .i64 p.time, .int .i64 p.unit, .int .i64 p.data, .slice A n c]] W fun e w' => e = .returned (.int .i64 (needL20 p)) ∧ Hid (Fq20 w w' p (more20 p Kd (dev20 xd (0, (J : Int), 0))) A n c b7 g c7)) := fun W hF => (Need_any20 p A n c W (HH.out.below hF.out.P.bel) hc).mono fun e w' ⟨h1, h2⟩ => ⟨h1, hF.out.later h2⟩
            have LW : Hid (∀ W, Hid (Fq20 w W p (more20 p Kd (dev20 xd (0, (J : Int), 0))) A n c b7 g c7) → Calls Try.prog 7 #[] W fun e w' => e = .returned (.bool true) ∧ Hid (Fq20 w w' p (more20 p Kd (dev20 xd (0, (J : Int), 0))) A n c b7 g c7)) := fun W hF => (lives20_any W).mono fun e w' ⟨h1, h2⟩ => ⟨h1, hF.out.later h2⟩
            obtain ⟨_, f1, f2, f3⟩ := hF
            clear hcq FIN LI HH HVV hmk
            have hszw : w.heap.size + 1 ≤ w5.heap.size := by have := HG5.out.P.size; omega
            have HG6 := Lib.hid (HG5.out.later (Below.refl _ _).drew)
            have hSd : w5.drew.cell? ⟨g, Kd * 5 + 4, none⟩ = some (.slice A9 0 c9) ∧ w5.drew.cell? ⟨w.heap.size, 3, none⟩ = some (.int .i64 p.data) := ⟨((Below.refl w5.heap.size w5).drew.cell (cell_lt z4)).trans z4, HG6.out.P.at.1⟩
            have hba : Below w5.heap.size w5 (w5.alloc (.cells #[.int .i64 0, .int .i64 (J : Int), .int .i64 0] 38)).drew := ((Below.refl _ _).alloc (Nat.le_refl _) _).drew
            have HGa := Lib.hid (HG5.out.later hba)
            have HEa := Lib.hid (own_keptS HEK5.out fun k _ hk => hba.block k hk)
            have hSa : (w5.alloc (.cells #[.int .i64 0, .int .i64 (J : Int), .int .i64 0] 38)).drew.cell? ⟨g, Kd * 5 + 4, none⟩ = some (.slice A9 0 c9) ∧ (w5.alloc (.cells #[.int .i64 0, .int .i64 (J : Int), .int .i64 0] 38)).drew.cell? ⟨w.heap.size, 3, none⟩ = some (.int .i64 p.data) := ⟨(hba.cell (cell_lt z4)).trans z4, HGa.out.P.at.1⟩
            have bm := build_map20
            have hdz : ¬ p.data = 0 := by omega
            have hJ2 := hJ
            unfold wrap64 at hJ2
            rw [← IntKind.wrap_i64] at hJ2
            have hKn5 : Kd * 5 + 4 < n * 5 := by omega
            clear hba q0 q1 q2 q3 q4 d0 d1 d2 d3 d4
            go_wp2
            refine wp_region_K (S := fun U => U.cell? ⟨g, Kd * 5 + 4, none⟩ = some (.slice A9 0 c9) ∧ U.cell? ⟨w.heap.size, 3, none⟩ = some (.int .i64 p.data)) 21 (by kernel_rfl) hSd (fun hHeld => ?_)
            refine wpAnyK_takeD (i := 0) (d := some 76) (v := ?vgr0) rfl (by rfl) (by kernel_rfl) (by kernel_rfl) (by kernel_rfl) (by kernel_rfl) (fun _ _ _ h => h) (Or.inl ⟨by rfl, ?hygr0⟩) hSd ?restgr0
            case hygr0 => (intro w hSw; (try dsimp only at hSw); go_simp; try (with_reducible rfl))
            try simp only [Act.put, List.setIfInBounds_toArray, List.set_cons_zero, List.set_cons_succ]
            refine wpAnyK_takeD (i := 1) (d := some 77) (v := ?vgr1) rfl (by rfl) (by kernel_rfl) (by kernel_rfl) (by kernel_rfl) (by kernel_rfl) (fun _ _ _ h => h) (Or.inl ⟨by rfl, ?hygr1⟩) hSd ?restgr1
            case hygr1 => (intro w hSw; (try dsimp only at hSw); go_simp; try (with_reducible rfl))
            try simp only [Act.put, List.setIfInBounds_toArray, List.set_cons_zero, List.set_cons_succ]
            refine wpAnyK_takeD (i := 2) (d := some 78) (v := ?vgr2) rfl (by rfl) (by kernel_rfl) (by kernel_rfl) (by kernel_rfl) (by kernel_rfl) (fun _ _ _ h => h) (Or.inl ⟨by rfl, ?hygr2⟩) hSd ?restgr2
            case hygr2 => (intro w hSw; (try dsimp only at hSw); go_simp; try (with_reducible rfl))
            try simp only [Act.put, List.setIfInBounds_toArray, List.set_cons_zero, List.set_cons_succ]
            refine wpAnyK_takeD (i := 3) (d := some 79) (v := ?vgr3) rfl (by rfl) (by kernel_rfl) (by kernel_rfl) (by kernel_rfl) (by kernel_rfl) (fun _ _ _ h => h) (Or.inl ⟨by rfl, ?hygr3⟩) hSd ?restgr3
            case hygr3 => (intro w hSw; (try dsimp only at hSw); go_simp; try (with_reducible rfl))
            try simp only [Act.put, List.setIfInBounds_toArray, List.set_cons_zero, List.set_cons_succ]
            refine wpAnyK_takeD (i := 4) (d := some 80) (v := ?vgr4) rfl (by rfl) (by kernel_rfl) (by kernel_rfl) (by kernel_rfl) (by kernel_rfl) (fun _ _ _ h => h) (Or.inl ⟨by rfl, ?hygr4⟩) hSd ?restgr4
            case hygr4 => (intro w hSw; (try dsimp only at hSw); go_simp; try (with_reducible rfl))
            try simp only [Act.put, List.setIfInBounds_toArray, List.set_cons_zero, List.set_cons_succ]
            refine wpAnyK_takeD (i := 5) (d := some 81) (v := ?vgr5) rfl (by rfl) (by kernel_rfl) (by kernel_rfl) (by kernel_rfl) (by kernel_rfl) (fun _ _ _ h => h) (Or.inl ⟨by rfl, ?hygr5⟩) hSd ?restgr5
            case hygr5 => (intro w hSw; (try dsimp only at hSw); go_simp; try (with_reducible rfl))
            try simp only [Act.put, List.setIfInBounds_toArray, List.set_cons_zero, List.set_cons_succ]
            refine wpAnyK_takeD (i := 6) (d := some 82) (v := ?vgr6) rfl (by rfl) (by kernel_rfl) (by kernel_rfl) (by kernel_rfl) (by kernel_rfl) (fun _ _ _ h => h) (Or.inl ⟨by rfl, ?hygr6⟩) hSd ?restgr6
            case hygr6 => (intro w hSw; (try dsimp only at hSw); go_simp; try (with_reducible rfl))
            try simp only [Act.put, List.setIfInBounds_toArray, List.set_cons_zero, List.set_cons_succ]
            refine wpAnyK_takeD (i := 7) (d := some 83) (v := ?vgr7) rfl (by rfl) (by kernel_rfl) (by kernel_rfl) (by kernel_rfl) (by kernel_rfl) (fun _ _ _ h => h) (Or.inl ⟨by rfl, ?hygr7⟩) hSd ?restgr7
            case hygr7 => (intro w hSw; (try dsimp only at hSw); go_simp; try (with_reducible rfl))
            try simp only [Act.put, List.setIfInBounds_toArray, List.set_cons_zero, List.set_cons_succ]
            refine wpAnyK_takeD (i := 8) (d := some 84) (v := ?vgr8) rfl (by rfl) (by kernel_rfl) (by kernel_rfl) (by kernel_rfl) (by kernel_rfl) (fun _ _ _ h => h) (Or.inl ⟨by rfl, ?hygr8⟩) hSd ?restgr8
            case hygr8 => (intro w hSw; (try dsimp only at hSw); go_simp; try (with_reducible rfl))
            try simp only [Act.put, List.setIfInBounds_toArray, List.set_cons_zero, List.set_cons_succ]
            refine wpAnyK_takeD (i := 9) (d := some 85) (v := ?vgr9) rfl (by rfl) (by kernel_rfl) (by kernel_rfl) (by kernel_rfl) (by kernel_rfl) (fun _ _ _ h => h) (Or.inl ⟨by rfl, ?hygr9⟩) hSd ?restgr9
            case hygr9 => (intro w hSw; (try dsimp only at hSw); go_simp; try (with_reducible rfl))
            try simp only [Act.put, List.setIfInBounds_toArray, List.set_cons_zero, List.set_cons_succ]
            refine wpAnyK_takeD (i := 10) (d := some 86) (v := ?vgr10) rfl (by rfl) (by kernel_rfl) (by kernel_rfl) (by kernel_rfl) (by kernel_rfl) (fun _ _ _ h => h) (Or.inl ⟨by rfl, ?hygr10⟩) hSd ?restgr10
            case hygr10 => (intro w hSw; (try dsimp only at hSw); go_simp; try (with_reducible rfl))
            try simp only [Act.put, List.setIfInBounds_toArray, List.set_cons_zero, List.set_cons_succ]
            refine wpAnyK_takeD (i := 11) (d := some 87) (v := ?vgr11) rfl (by rfl) (by kernel_rfl) (by kernel_rfl) (by kernel_rfl) (by kernel_rfl) (fun _ _ _ h => h) (Or.inl ⟨by rfl, ?hygr11⟩) hSd ?restgr11
            case hygr11 => (intro w hSw; (try dsimp only at hSw); go_simp; try (with_reducible rfl))
            try simp only [Act.put, List.setIfInBounds_toArray, List.set_cons_zero, List.set_cons_succ]
            refine wpAnyK_takeD (i := 12) (d := some 88) (v := ?vgr12) rfl (by rfl) (by kernel_rfl) (by kernel_rfl) (by kernel_rfl) (by kernel_rfl) (fun _ _ _ h => h) (Or.inl ⟨by rfl, ?hygr12⟩) hSd ?restgr12
            case hygr12 => (intro w hSw; (try dsimp only at hSw); go_simp; try (with_reducible rfl))
            try simp only [Act.put, List.setIfInBounds_toArray, List.set_cons_zero, List.set_cons_succ]
            refine wpAnyK_takeD (i := 13) (d := some 89) (v := ?vgr13) rfl (by rfl) (by kernel_rfl) (by kernel_rfl) (by kernel_rfl) (by kernel_rfl) (fun _ _ _ h => h) (Or.inl ⟨by rfl, ?hygr13⟩) hSd ?restgr13
            case hygr13 => (intro w hSw; (try dsimp only at hSw); go_simp; try (with_reducible rfl))
            try simp only [Act.put, List.setIfInBounds_toArray, List.set_cons_zero, List.set_cons_succ]
            refine wpAnyK_takeD (i := 14) (d := some 90) (v := ?vgr14) rfl (by rfl) (by kernel_rfl) (by kernel_rfl) (by kernel_rfl) (by kernel_rfl) (fun _ _ _ h => h) (Or.inl ⟨by rfl, ?hygr14⟩) hSd ?restgr14
            case hygr14 => (intro w hSw; (try dsimp only at hSw); go_simp; try (with_reducible rfl))
            try simp only [Act.put, List.setIfInBounds_toArray, List.set_cons_zero, List.set_cons_succ]
            refine wpAnyK_takeD (i := 15) (d := some 91) (v := ?vgr15) rfl (by rfl) (by kernel_rfl) (by kernel_rfl) (by kernel_rfl) (by kernel_rfl) (fun _ _ _ h => h) (Or.inl ⟨by rfl, ?hygr15⟩) hSd ?restgr15
            case hygr15 => (intro w hSw; (try dsimp only at hSw); go_simp; try (with_reducible rfl))
            try simp only [Act.put, List.setIfInBounds_toArray, List.set_cons_zero, List.set_cons_succ]
            refine wpAnyK_takeD (i := 16) (d := some 92) (v := ?vgr16) rfl (by rfl) (by kernel_rfl) (by kernel_rfl) (by kernel_rfl) (by kernel_rfl) (fun _ _ _ h => h) (Or.inl ⟨by rfl, ?hygr16⟩) hSd ?restgr16
            case hygr16 => (intro w hSw; (try dsimp only at hSw); go_simp; try (with_reducible rfl))
            try simp only [Act.put, List.setIfInBounds_toArray, List.set_cons_zero, List.set_cons_succ]
            refine wpAnyK_one (j := 17) (by kernel_rfl) rfl (fun K hK => ?_)
            go_simp
            refine hK.out _ _ hSa (fun hHeldgr17 => ?_)
            clear hK K
            try simp only [Act.put, List.setIfInBounds_toArray, List.set_cons_zero, List.set_cons_succ]
            refine wpAnyK_one (j := 18) (by kernel_rfl) rfl (fun K hK => ?_)
            refine step_append_liesG _ rfl (.tmp 80) (.tmp 93) 34 rfl (w.heap.size + 1) 38 3 (.agg #[.int .i64 0, .int .i64 0, .int .i64 0]) 24 Try.underlying34 info_map18 rfl (by omega) (.slice A9 0 c9) 0 (triC xd.maps) rfl HEa (by simp; omega) ⟨w5.heap.size, 0, none⟩ [.int .i64 0, .int .i64 (J : Int), .int .i64 0] 1 1 rfl rfl (Row.of_block (t := 38) (fr := (0, 0)) (heap_alloc_new w5 _)) (by simp [Value.oneCell']) (by omega) (by omega) (by omega) ?_
            intro g7 cap7 w7 hown7 hgrow7 hat7
            obtain ⟨hfq, hcl, hdt⟩ := HGa.out.grow hKL HX.out (x := (0, (J : Int), 0)) hown7.out hgrow7.out
            obtain ⟨k4, f7⟩ := hcl (Kd * 5 + 4) (.slice A9 0 c9) hKn5 (by have := (devC18_at L Kd hKL).2.2.2.2; rw [rowV18, HX.out] at this; exact this)
            have HF7 := Lib.hid hfq
            have hS7 : w7.cell? ⟨g, Kd * 5 + 4, none⟩ = some (.slice A9 0 c9) ∧ w7.cell? ⟨w.heap.size, 3, none⟩ = some (.int .i64 p.data) := ⟨k4, hdt⟩
            clear hfq hcl hdt hown7 hgrow7 hat7
            refine hK.out _ _ hS7 (fun hHeldgr18 => ?_)
            clear hK K
            try simp only [Act.put, List.setIfInBounds_toArray, List.set_cons_zero, List.set_cons_succ]
            refine wpAnyK_one (j := 19) (by kernel_rfl) rfl (fun K hK => ?_)
            go_simp
            refine hK.out _ _ hS7 (fun hHeldgr19 => ?_)
            clear hK K
            try simp only [Act.put, List.setIfInBounds_toArray, List.set_cons_zero, List.set_cons_succ]
            refine wpAnyK_takeD (i := 20) (d := some 96) (v := ?vgr20) rfl (by rfl) (by kernel_rfl) (by kernel_rfl) (by kernel_rfl) (by kernel_rfl) (fun _ _ _ h => h) (Or.inl ⟨by rfl, ?hygr20⟩) hS7 ?restgr20
            case hygr20 => (intro w hSw; (try dsimp only at hSw); go_simp; try (with_reducible rfl))
            try simp only [Act.put, List.setIfInBounds_toArray, List.set_cons_zero, List.set_cons_succ]
            refine wpAnyK_last (by kernel_rfl) rfl (by kernel_rfl) (fun K hK => ?_)
            go_simp
            refine hK.out _ _ ?_
            clear hK K
            try simp only [Act.put, List.setIfInBounds_toArray, List.set_cons_zero, List.set_cons_succ]
            go_wp2
            generalize w7.setCell ⟨g, Kd * 5 + 4, none⟩ (.slice (some ⟨g7, 0, none⟩) (0 + 1) cap7) = w8 at *
            have HF8 := Lib.hid (HF7.out.later (Below.refl _ _).drew)
            have d8 := And.intro HF8.out.P.row.cs HF8.out.Q.cs
            clear HF7 HG5 HG6 HGa HEK5 HEa hSd hSa hS7 k4 f7 z4 bm HX
            generalize base20 (more20 p Kd (dev20 xd (0, (J : Int), 0))) = y0 at *
            generalize base20 p = y1 at *
            generalize needL20 (more20 p Kd (dev20 xd (0, (J : Int), 0))) = y2 at *
            generalize needL20 p = y3 at *
            go_region_held3 (fun W => (W.cell? ⟨w.heap.size, 0, none⟩ = some (.int .i64 p.tx) ∧ W.cell? ⟨w.heap.size, 1, none⟩ = some (.int .i64 p.time) ∧ W.cell? ⟨w.heap.size, 2, none⟩ = some (.int .i64 p.unit) ∧ W.cell? ⟨w.heap.size, 3, none⟩ = some (.int .i64 p.data) ∧ W.cell? ⟨w.heap.size, 4, none⟩ = some (.slice A n c)) ∧ W.cell? ⟨b7, 0, none⟩ = some (.int .i64 p.tx) ∧ W.cell? ⟨b7, 1, none⟩ = some (.int .i64 p.time) ∧ W.cell? ⟨b7, 2, none⟩ = some (.int .i64 p.unit) ∧ W.cell? ⟨b7, 3, none⟩ = some (.int .i64 p.data) ∧ W.cell? ⟨b7, 4, none⟩ = some (.slice (some ⟨g, 0, none⟩) n c7))
              (assumption)
              (first
                | (go_at_call 10; first
                  | ((with_reducible refine (BP.out _ HF9).mono ?_); rintro e w10 ⟨rfl, HF10⟩; have d10 := And.intro HF10.out.P.row.cs HF10.out.Q.cs)
                  | ((with_reducible refine (BQ.out _ HF8).mono ?_); rintro e w9 ⟨rfl, HF9⟩; have d9 := And.intro HF9.out.P.row.cs HF9.out.Q.cs))
                | (go_at_call 12; first
                  | ((with_reducible refine (NQ.out _ HF12).mono ?_); rintro e w13 ⟨rfl, HF13⟩; have d13 := And.intro HF13.out.P.row.cs HF13.out.Q.cs)
                  | ((with_reducible refine (NP.out _ HF11).mono ?_); rintro e w12 ⟨rfl, HF12⟩; have d12 := And.intro HF12.out.P.row.cs HF12.out.Q.cs)
                  | ((with_reducible refine (NQ.out _ HF10).mono ?_); rintro e w11 ⟨rfl, HF11⟩; have d11 := And.intro HF11.out.P.row.cs HF11.out.Q.cs))
                | (go_at_call 7; (with_reducible refine (LW.out _ HF13).mono ?_); rintro e w14 ⟨rfl, HF14⟩; have d14 := And.intro HF14.out.P.row.cs HF14.out.Q.cs))
            go_wp2
            go_ret
            exact ⟨rfl, HF14.out.P.bel⟩
          · obtain ⟨m', hmm⟩ : ∃ m', m = m' + 1 := ⟨m - 1, by omega⟩
            obtain ⟨gm, rfl, _, _⟩ := own_form18 HEK5.out (by omega)
            have hkm : m' < xd.maps.length := by omega
            have t0 := own_at18 HEK5.out (triC_at xd.maps m' hkm).1
            have hli := LI.out m' hkm
            rw [← getD18 hkm (0, 0, 0)] at t0
            have hw1 : IntKind.i64.wrap ((m : Int) - 1) = (m' : Int) := (IntWalk.i64_in _ (by omega)).trans (by omega)
            have hw2 : IntKind.i64.wrap (m' : Int) = (m' : Int) := IntWalk.i64_in _ (by omega)
            have hmp : 0 < m := by omega
            have hmq : m' < m := by omega
            obtain ⟨V, hV⟩ : ∃ V, (xd.maps.getD m' (0, 0, 0)).1 = V := ⟨_, rfl⟩
            have HV := Lib.hid hV
            rw [hV] at t0 hli
            obtain ⟨v0, v1⟩ := hli
            clear hV hm0
            by_cases hvm : V + 1 ≤ 281474976710655
            -- REST1
            · have hF := FIN.out (V + 1) ⟨by omega, hvm⟩ (fun y hy => by rw [last20_is none _ (by omega), show xd.maps.length - 1 = m' by omega, HV.out] at hy; injection hy; omega)
              clear hmm
              have hcq : cnt18 (more20 p Kd (dev20 xd ((V + 1), (J : Int), 0))).devs ≤ 1000000 := by obtain ⟨_, _, h3, _⟩ := chk20_parts hF.1; omega
              have BQ : Hid (∀ W, Hid (Fq20 w W p (more20 p Kd (dev20 xd ((V + 1), (J : Int), 0))) A n c b7 g c7) → Calls Try.prog 10 #[.agg #[.int .i64 p.tx, .int .i64 p.time, .int .i64 p.unit, .int .i64 p.data, .slice (some ⟨g, 0, none⟩) n c7]] W fun e w' => e = .returned (.int .i64 (base20 (more20 p Kd (dev20 xd ((V + 1), (J : Int), 0))))) ∧ Hid (Fq20 w w' p (more20 p Kd (dev20 xd ((V + 1), (J : Int), 0))) A n c b7 g c7)) := fun W hF => (Base_any20 (more20 p Kd (dev20 xd ((V + 1), (J : Int), 0))) (some ⟨g, 0, none⟩) n c7 W hF.out.D hcq).mono fun e w' ⟨h1, h2⟩ => ⟨h1, hF.out.later h2⟩
              have BP : Hid (∀ W, Hid (Fq20 w W p (more20 p Kd (dev20 xd ((V + 1), (J : Int), 0))) A n c b7 g c7) → Calls Try.prog 10 #[.agg #[.int .i64 p.tx, .int .i64 p.time, .int .i64 p.unit, .int .i64 p.data, .slice A n c]] W fun e w' => e = .returned (.int .i64 (base20 p)) ∧ Hid (Fq20 w w' p (more20 p Kd (dev20 xd ((V + 1), (J : Int), 0))) A n c b7 g c7)) := fun W hF => (Base_any20 p A n c W (HH.out.below hF.out.P.bel) hc).mono fun e w' ⟨h1, h2⟩ => ⟨h1, hF.out.later h2⟩
              have NQ : Hid (∀ W, Hid (Fq20 w W p (more20 p Kd (dev20 xd ((V + 1), (J : Int), 0))) A n c b7 g c7) → Calls Try.prog 12 #[.agg #[.int .i64 p.tx, .int .i64 p.time, .int .i64 p.unit, .int .i64 p.data, .slice (some ⟨g, 0, none⟩) n c7]] W fun e w' => e = .returned (.int .i64 (needL20 (more20 p Kd (dev20 xd ((V + 1), (J : Int), 0))))) ∧ Hid (Fq20 w w' p (more20 p Kd (dev20 xd ((V + 1), (J : Int), 0))) A n c b7 g c7)) := fun W hF => (Need_any20 (more20 p Kd (dev20 xd ((V + 1), (J : Int), 0))) (some ⟨g, 0, none⟩) n c7 W hF.out.D hcq).mono fun e w' ⟨h1, h2⟩ => ⟨h1, hF.out.later h2⟩
              have NP : Hid (∀ W, Hid (Fq20 w W p (more20 p Kd (dev20 xd ((V + 1), (J : Int), 0))) A n c b7 g c7) → Calls Try.prog 12 #[.agg #[.int .i64 p.tx, .int .i64 p.time, .int .i64 p.unit, .int .i64 p.data, .slice A n c]] W fun e w' => e = .returned (.int .i64 (needL20 p)) ∧ Hid (Fq20 w w' p (more20 p Kd (dev20 xd ((V + 1), (J : Int), 0))) A n c b7 g c7)) := fun W hF => (Need_any20 p A n c W (HH.out.below hF.out.P.bel) hc).mono fun e w' ⟨h1, h2⟩ => ⟨h1, hF.out.later h2⟩
              have LW : Hid (∀ W, Hid (Fq20 w W p (more20 p Kd (dev20 xd ((V + 1), (J : Int), 0))) A n c b7 g c7) → Calls Try.prog 7 #[] W fun e w' => e = .returned (.bool true) ∧ Hid (Fq20 w w' p (more20 p Kd (dev20 xd ((V + 1), (J : Int), 0))) A n c b7 g c7)) := fun W hF => (lives20_any W).mono fun e w' ⟨h1, h2⟩ => ⟨h1, hF.out.later h2⟩
              obtain ⟨_, f1, f2, f3⟩ := hF
              clear hcq FIN LI HH HVV hmk
              have hszw : w.heap.size + 1 ≤ w5.heap.size := by have := HG5.out.P.size; omega
              have HG6 := Lib.hid (HG5.out.later (Below.refl _ _).drew)
              have hSd : w5.drew.cell? ⟨g, Kd * 5 + 4, none⟩ = some (.slice (some ⟨gm, 0, none⟩) m c9) ∧ w5.drew.cell? ⟨w.heap.size, 3, none⟩ = some (.int .i64 p.data) := ⟨((Below.refl w5.heap.size w5).drew.cell (cell_lt z4)).trans z4, HG6.out.P.at.1⟩
              have hba : Below w5.heap.size w5 (w5.alloc (.cells #[.int .i64 (V + 1), .int .i64 (J : Int), .int .i64 0] 38)).drew := ((Below.refl _ _).alloc (Nat.le_refl _) _).drew
              have HGa := Lib.hid (HG5.out.later hba)
              have HEa := Lib.hid (own_keptS HEK5.out fun k _ hk => hba.block k hk)
              have hSa : (w5.alloc (.cells #[.int .i64 (V + 1), .int .i64 (J : Int), .int .i64 0] 38)).drew.cell? ⟨g, Kd * 5 + 4, none⟩ = some (.slice (some ⟨gm, 0, none⟩) m c9) ∧ (w5.alloc (.cells #[.int .i64 (V + 1), .int .i64 (J : Int), .int .i64 0] 38)).drew.cell? ⟨w.heap.size, 3, none⟩ = some (.int .i64 p.data) := ⟨(hba.cell (cell_lt z4)).trans z4, HGa.out.P.at.1⟩
              have bm := build_map20
              have hdz : ¬ p.data = 0 := by omega
              have hJ2 := hJ
              unfold wrap64 at hJ2
              rw [← IntKind.wrap_i64] at hJ2
              have hKn5 : Kd * 5 + 4 < n * 5 := by omega
              clear hba q0 q1 q2 q3 q4 d0 d1 d2 d3 d4
              go_wp2
              refine wp_region_K (S := fun U => U.cell? ⟨g, Kd * 5 + 4, none⟩ = some (.slice (some ⟨gm, 0, none⟩) m c9) ∧ U.cell? ⟨w.heap.size, 3, none⟩ = some (.int .i64 p.data)) 21 (by kernel_rfl) hSd (fun hHeld => ?_)
              refine wpAnyK_takeD (i := 0) (d := some 76) (v := ?vgs0) rfl (by rfl) (by kernel_rfl) (by kernel_rfl) (by kernel_rfl) (by kernel_rfl) (fun _ _ _ h => h) (Or.inl ⟨by rfl, ?hygs0⟩) hSd ?restgs0
              case hygs0 => (intro w hSw; (try dsimp only at hSw); go_simp; try (with_reducible rfl))
              try simp only [Act.put, List.setIfInBounds_toArray, List.set_cons_zero, List.set_cons_succ]
              refine wpAnyK_takeD (i := 1) (d := some 77) (v := ?vgs1) rfl (by rfl) (by kernel_rfl) (by kernel_rfl) (by kernel_rfl) (by kernel_rfl) (fun _ _ _ h => h) (Or.inl ⟨by rfl, ?hygs1⟩) hSd ?restgs1
              case hygs1 => (intro w hSw; (try dsimp only at hSw); go_simp; try (with_reducible rfl))
              try simp only [Act.put, List.setIfInBounds_toArray, List.set_cons_zero, List.set_cons_succ]
              refine wpAnyK_takeD (i := 2) (d := some 78) (v := ?vgs2) rfl (by rfl) (by kernel_rfl) (by kernel_rfl) (by kernel_rfl) (by kernel_rfl) (fun _ _ _ h => h) (Or.inl ⟨by rfl, ?hygs2⟩) hSd ?restgs2
              case hygs2 => (intro w hSw; (try dsimp only at hSw); go_simp; try (with_reducible rfl))
              try simp only [Act.put, List.setIfInBounds_toArray, List.set_cons_zero, List.set_cons_succ]
              refine wpAnyK_takeD (i := 3) (d := some 79) (v := ?vgs3) rfl (by rfl) (by kernel_rfl) (by kernel_rfl) (by kernel_rfl) (by kernel_rfl) (fun _ _ _ h => h) (Or.inl ⟨by rfl, ?hygs3⟩) hSd ?restgs3
              case hygs3 => (intro w hSw; (try dsimp only at hSw); go_simp; try (with_reducible rfl))
              try simp only [Act.put, List.setIfInBounds_toArray, List.set_cons_zero, List.set_cons_succ]
              refine wpAnyK_takeD (i := 4) (d := some 80) (v := ?vgs4) rfl (by rfl) (by kernel_rfl) (by kernel_rfl) (by kernel_rfl) (by kernel_rfl) (fun _ _ _ h => h) (Or.inl ⟨by rfl, ?hygs4⟩) hSd ?restgs4
              case hygs4 => (intro w hSw; (try dsimp only at hSw); go_simp; try (with_reducible rfl))
              try simp only [Act.put, List.setIfInBounds_toArray, List.set_cons_zero, List.set_cons_succ]
              refine wpAnyK_takeD (i := 5) (d := some 81) (v := ?vgs5) rfl (by rfl) (by kernel_rfl) (by kernel_rfl) (by kernel_rfl) (by kernel_rfl) (fun _ _ _ h => h) (Or.inl ⟨by rfl, ?hygs5⟩) hSd ?restgs5
              case hygs5 => (intro w hSw; (try dsimp only at hSw); go_simp; try (with_reducible rfl))
              try simp only [Act.put, List.setIfInBounds_toArray, List.set_cons_zero, List.set_cons_succ]
              refine wpAnyK_takeD (i := 6) (d := some 82) (v := ?vgs6) rfl (by rfl) (by kernel_rfl) (by kernel_rfl) (by kernel_rfl) (by kernel_rfl) (fun _ _ _ h => h) (Or.inl ⟨by rfl, ?hygs6⟩) hSd ?restgs6
              case hygs6 => (intro w hSw; (try dsimp only at hSw); go_simp; try (with_reducible rfl))
              try simp only [Act.put, List.setIfInBounds_toArray, List.set_cons_zero, List.set_cons_succ]
              refine wpAnyK_takeD (i := 7) (d := some 83) (v := ?vgs7) rfl (by rfl) (by kernel_rfl) (by kernel_rfl) (by kernel_rfl) (by kernel_rfl) (fun _ _ _ h => h) (Or.inl ⟨by rfl, ?hygs7⟩) hSd ?restgs7
              case hygs7 => (intro w hSw; (try dsimp only at hSw); go_simp; try (with_reducible rfl))
              try simp only [Act.put, List.setIfInBounds_toArray, List.set_cons_zero, List.set_cons_succ]
              refine wpAnyK_takeD (i := 8) (d := some 84) (v := ?vgs8) rfl (by rfl) (by kernel_rfl) (by kernel_rfl) (by kernel_rfl) (by kernel_rfl) (fun _ _ _ h => h) (Or.inl ⟨by rfl, ?hygs8⟩) hSd ?restgs8
              case hygs8 => (intro w hSw; (try dsimp only at hSw); go_simp; try (with_reducible rfl))
              try simp only [Act.put, List.setIfInBounds_toArray, List.set_cons_zero, List.set_cons_succ]
              refine wpAnyK_takeD (i := 9) (d := some 85) (v := ?vgs9) rfl (by rfl) (by kernel_rfl) (by kernel_rfl) (by kernel_rfl) (by kernel_rfl) (fun _ _ _ h => h) (Or.inl ⟨by rfl, ?hygs9⟩) hSd ?restgs9
              case hygs9 => (intro w hSw; (try dsimp only at hSw); go_simp; try (with_reducible rfl))
              try simp only [Act.put, List.setIfInBounds_toArray, List.set_cons_zero, List.set_cons_succ]
              refine wpAnyK_takeD (i := 10) (d := some 86) (v := ?vgs10) rfl (by rfl) (by kernel_rfl) (by kernel_rfl) (by kernel_rfl) (by kernel_rfl) (fun _ _ _ h => h) (Or.inl ⟨by rfl, ?hygs10⟩) hSd ?restgs10
              case hygs10 => (intro w hSw; (try dsimp only at hSw); go_simp; try (with_reducible rfl))
              try simp only [Act.put, List.setIfInBounds_toArray, List.set_cons_zero, List.set_cons_succ]
              refine wpAnyK_takeD (i := 11) (d := some 87) (v := ?vgs11) rfl (by rfl) (by kernel_rfl) (by kernel_rfl) (by kernel_rfl) (by kernel_rfl) (fun _ _ _ h => h) (Or.inl ⟨by rfl, ?hygs11⟩) hSd ?restgs11
              case hygs11 => (intro w hSw; (try dsimp only at hSw); go_simp; try (with_reducible rfl))
              try simp only [Act.put, List.setIfInBounds_toArray, List.set_cons_zero, List.set_cons_succ]
              refine wpAnyK_takeD (i := 12) (d := some 88) (v := ?vgs12) rfl (by rfl) (by kernel_rfl) (by kernel_rfl) (by kernel_rfl) (by kernel_rfl) (fun _ _ _ h => h) (Or.inl ⟨by rfl, ?hygs12⟩) hSd ?restgs12
              case hygs12 => (intro w hSw; (try dsimp only at hSw); go_simp; try (with_reducible rfl))
              try simp only [Act.put, List.setIfInBounds_toArray, List.set_cons_zero, List.set_cons_succ]
              refine wpAnyK_takeD (i := 13) (d := some 89) (v := ?vgs13) rfl (by rfl) (by kernel_rfl) (by kernel_rfl) (by kernel_rfl) (by kernel_rfl) (fun _ _ _ h => h) (Or.inl ⟨by rfl, ?hygs13⟩) hSd ?restgs13
              case hygs13 => (intro w hSw; (try dsimp only at hSw); go_simp; try (with_reducible rfl))
              try simp only [Act.put, List.setIfInBounds_toArray, List.set_cons_zero, List.set_cons_succ]
              refine wpAnyK_takeD (i := 14) (d := some 90) (v := ?vgs14) rfl (by rfl) (by kernel_rfl) (by kernel_rfl) (by kernel_rfl) (by kernel_rfl) (fun _ _ _ h => h) (Or.inl ⟨by rfl, ?hygs14⟩) hSd ?restgs14
              case hygs14 => (intro w hSw; (try dsimp only at hSw); go_simp; try (with_reducible rfl))
              try simp only [Act.put, List.setIfInBounds_toArray, List.set_cons_zero, List.set_cons_succ]
              refine wpAnyK_takeD (i := 15) (d := some 91) (v := ?vgs15) rfl (by rfl) (by kernel_rfl) (by kernel_rfl) (by kernel_rfl) (by kernel_rfl) (fun _ _ _ h => h) (Or.inl ⟨by rfl, ?hygs15⟩) hSd ?restgs15
              case hygs15 => (intro w hSw; (try dsimp only at hSw); go_simp; try (with_reducible rfl))
              try simp only [Act.put, List.setIfInBounds_toArray, List.set_cons_zero, List.set_cons_succ]
              refine wpAnyK_takeD (i := 16) (d := some 92) (v := ?vgs16) rfl (by rfl) (by kernel_rfl) (by kernel_rfl) (by kernel_rfl) (by kernel_rfl) (fun _ _ _ h => h) (Or.inl ⟨by rfl, ?hygs16⟩) hSd ?restgs16
              case hygs16 => (intro w hSw; (try dsimp only at hSw); go_simp; try (with_reducible rfl))
              try simp only [Act.put, List.setIfInBounds_toArray, List.set_cons_zero, List.set_cons_succ]
              refine wpAnyK_one (j := 17) (by kernel_rfl) rfl (fun K hK => ?_)
              go_simp
              refine hK.out _ _ hSa (fun hHeldgs17 => ?_)
              clear hK K
              try simp only [Act.put, List.setIfInBounds_toArray, List.set_cons_zero, List.set_cons_succ]
              refine wpAnyK_one (j := 18) (by kernel_rfl) rfl (fun K hK => ?_)
              refine step_append_liesG _ rfl (.tmp 80) (.tmp 93) 34 rfl (w.heap.size + 1) 38 3 (.agg #[.int .i64 0, .int .i64 0, .int .i64 0]) 24 Try.underlying34 info_map18 rfl (by omega) (.slice (some ⟨gm, 0, none⟩) m c9) m (triC xd.maps) rfl HEa (by simp; omega) ⟨w5.heap.size, 0, none⟩ [.int .i64 (V + 1), .int .i64 (J : Int), .int .i64 0] 1 1 rfl rfl (Row.of_block (t := 38) (fr := (0, 0)) (heap_alloc_new w5 _)) (by simp [Value.oneCell']) (by omega) (by omega) (by omega) ?_
              intro g7 cap7 w7 hown7 hgrow7 hat7
              obtain ⟨hfq, hcl, hdt⟩ := HGa.out.grow hKL HX.out (x := ((V + 1), (J : Int), 0)) hown7.out hgrow7.out
              obtain ⟨k4, f7⟩ := hcl (Kd * 5 + 4) (.slice (some ⟨gm, 0, none⟩) m c9) hKn5 (by have := (devC18_at L Kd hKL).2.2.2.2; rw [rowV18, HX.out] at this; exact this)
              have HF7 := Lib.hid hfq
              have hS7 : w7.cell? ⟨g, Kd * 5 + 4, none⟩ = some (.slice (some ⟨gm, 0, none⟩) m c9) ∧ w7.cell? ⟨w.heap.size, 3, none⟩ = some (.int .i64 p.data) := ⟨k4, hdt⟩
              clear hfq hcl hdt hown7 hgrow7 hat7
              refine hK.out _ _ hS7 (fun hHeldgs18 => ?_)
              clear hK K
              try simp only [Act.put, List.setIfInBounds_toArray, List.set_cons_zero, List.set_cons_succ]
              refine wpAnyK_one (j := 19) (by kernel_rfl) rfl (fun K hK => ?_)
              go_simp
              refine hK.out _ _ hS7 (fun hHeldgs19 => ?_)
              clear hK K
              try simp only [Act.put, List.setIfInBounds_toArray, List.set_cons_zero, List.set_cons_succ]
              refine wpAnyK_takeD (i := 20) (d := some 96) (v := ?vgs20) rfl (by rfl) (by kernel_rfl) (by kernel_rfl) (by kernel_rfl) (by kernel_rfl) (fun _ _ _ h => h) (Or.inl ⟨by rfl, ?hygs20⟩) hS7 ?restgs20
              case hygs20 => (intro w hSw; (try dsimp only at hSw); go_simp; try (with_reducible rfl))
              try simp only [Act.put, List.setIfInBounds_toArray, List.set_cons_zero, List.set_cons_succ]
              refine wpAnyK_last (by kernel_rfl) rfl (by kernel_rfl) (fun K hK => ?_)
              go_simp
              refine hK.out _ _ ?_
              clear hK K
              try simp only [Act.put, List.setIfInBounds_toArray, List.set_cons_zero, List.set_cons_succ]
              go_wp2
              generalize w7.setCell ⟨g, Kd * 5 + 4, none⟩ (.slice (some ⟨g7, 0, none⟩) (m + 1) cap7) = w8 at *
              have HF8 := Lib.hid (HF7.out.later (Below.refl _ _).drew)
              have d8 := And.intro HF8.out.P.row.cs HF8.out.Q.cs
              clear HF7 HG5 HG6 HGa HEK5 HEa hSd hSa hS7 k4 f7 z4 bm HX
              generalize base20 (more20 p Kd (dev20 xd ((V + 1), (J : Int), 0))) = y0 at *
              generalize base20 p = y1 at *
              generalize needL20 (more20 p Kd (dev20 xd ((V + 1), (J : Int), 0))) = y2 at *
              generalize needL20 p = y3 at *
              go_region_held3 (fun W => (W.cell? ⟨w.heap.size, 0, none⟩ = some (.int .i64 p.tx) ∧ W.cell? ⟨w.heap.size, 1, none⟩ = some (.int .i64 p.time) ∧ W.cell? ⟨w.heap.size, 2, none⟩ = some (.int .i64 p.unit) ∧ W.cell? ⟨w.heap.size, 3, none⟩ = some (.int .i64 p.data) ∧ W.cell? ⟨w.heap.size, 4, none⟩ = some (.slice A n c)) ∧ W.cell? ⟨b7, 0, none⟩ = some (.int .i64 p.tx) ∧ W.cell? ⟨b7, 1, none⟩ = some (.int .i64 p.time) ∧ W.cell? ⟨b7, 2, none⟩ = some (.int .i64 p.unit) ∧ W.cell? ⟨b7, 3, none⟩ = some (.int .i64 p.data) ∧ W.cell? ⟨b7, 4, none⟩ = some (.slice (some ⟨g, 0, none⟩) n c7))
                (assumption)
                (first
                  | (go_at_call 10; first
                    | ((with_reducible refine (BP.out _ HF9).mono ?_); rintro e w10 ⟨rfl, HF10⟩; have d10 := And.intro HF10.out.P.row.cs HF10.out.Q.cs)
                    | ((with_reducible refine (BQ.out _ HF8).mono ?_); rintro e w9 ⟨rfl, HF9⟩; have d9 := And.intro HF9.out.P.row.cs HF9.out.Q.cs))
                  | (go_at_call 12; first
                    | ((with_reducible refine (NQ.out _ HF12).mono ?_); rintro e w13 ⟨rfl, HF13⟩; have d13 := And.intro HF13.out.P.row.cs HF13.out.Q.cs)
                    | ((with_reducible refine (NP.out _ HF11).mono ?_); rintro e w12 ⟨rfl, HF12⟩; have d12 := And.intro HF12.out.P.row.cs HF12.out.Q.cs)
                    | ((with_reducible refine (NQ.out _ HF10).mono ?_); rintro e w11 ⟨rfl, HF11⟩; have d11 := And.intro HF11.out.P.row.cs HF11.out.Q.cs))
                  | (go_at_call 7; (with_reducible refine (LW.out _ HF13).mono ?_); rintro e w14 ⟨rfl, HF14⟩; have d14 := And.intro HF14.out.P.row.cs HF14.out.Q.cs))
              go_wp2
              go_ret
              exact ⟨rfl, HF14.out.P.bel⟩
            · go_wp2_with (go_at_call 7; (with_reducible refine (LV.out _ (Lib.hid HG5.out.P)).mono ?_); rintro e w9 ⟨rfl, HV9⟩)
              go_ret
              exact ⟨rfl, HV9.out.bel⟩
    · have hyb : (chkE18 p != 0) = true := by simpa using hv
      clear h hbd hV0 hf hib hbb hf1 hf2 hc hv
      unfold polV18
      generalize chkE18 p = y at *
      go_enter Try.func5, Try.ntmps5
      go_wp2_with (first
        | (go_at_call 6; (with_reducible refine (FW.out _ HV0).mono ?_); rintro e w1 ⟨rfl, HV1⟩; obtain ⟨a0, a1, a2, a3, a4⟩ := HV1.out.row.cs)
        | (go_at_call 16; (with_reducible refine (CK.out _ HV1).mono ?_); rintro e w2 ⟨rfl, HV2⟩; obtain ⟨b0, b1, b2, b3, b4⟩ := HV2.out.row.cs)
        | (go_at_call 7; (with_reducible refine (LV.out _ HV2).mono ?_); rintro e w9 ⟨rfl, HV9⟩))
      go_ret
      exact ⟨rfl, HV9.out.bel⟩
end Go.Proofs.Ytcmehjjaologpaa
