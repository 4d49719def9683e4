/-
  Layer 8's build.
-/
import Derived.Test.YtolapeocdaknjaaValA
namespace Go.Proofs.Ytolapeocdaknjaa
open Go.RowKit
set_option linter.unusedVariables false
set_option linter.unusedSimpArgs false

set_option maxRecDepth 100000 in
set_option maxHeartbeats 1600000 in
theorem build_any (w : World) (b off n c : Nat) (l : List (NumS × Int)) (g o : Nat → Nat) (h : NumsAt w b off n c l g o) (hv : ValsAt w l g o) (hbv : ∀ p ∈ l, i64b p.2) :
    Calls Try.prog 26 #[.slice (some ⟨b, off, none⟩) n c] w fun e w' => e = .returned (.string ⟨(bldP l).toArray⟩) ∧ Below w.heap.size w w' := by
  have HN := Lib.hid h
  have HV := Lib.hid hv
  have HB := Lib.hid hbv
  have hn := h.small
  have hlen := Lib.hid h.len
  have hcap := h.cap
  have hmost := h.most
  clear h hv hbv
  go_enter Try.func26, Try.ntmps26
  go_wp2
  go_loopw [3, 10] (fun v i wr => ∃ k : Nat, k ≤ n ∧ i = .int .i64 k ∧ Hid (okP (l.take k) = true) ∧ Hid (wr.ownsRow w.heap.size 5 1 v (encP (l.take k)).length (u8s (encP (l.take k)))) ∧ w.heap.size ≤ wr.heap.size ∧ Below w.heap.size w wr) (fun _ i _ => n - (intOf i).toNat)
  case atStart => exact ⟨0, by omega, rfl, rfl, World.ownsRow_nil _ _ _ _, Nat.le_refl _, Below.refl _ _⟩
  case round =>
    obtain ⟨k, hk, rfl, hE, hown, hs, hbel⟩ := hrel
    by_cases hlt : k < n
    · have hkl : k < l.length := by have := hlen.out; omega
      obtain ⟨h0, h1, h2, h3⟩ := (HN.out.later hbel.size (hbel.block b HN.out.lt)).row k hkl
      have hg := cell_lt (HV.out k hkl)
      have hx0 := (hbel.cell (p := ⟨g k, o k, none⟩) hg).trans (HV.out k hkl)
      have hxA : ∀ ob, (wr.alloc ob).cell? ⟨g k, o k, none⟩ = some (.int .i64 l[k].2) := fun ob => (((Below.refl wr.heap.size wr).alloc (Nat.le_refl _) ob).cell (p := ⟨g k, o k, none⟩) (Nat.lt_of_lt_of_le hg hs)).trans hx0
      obtain ⟨hb1, hb2⟩ := HB.out l[k] (List.getElem_mem _)
      obtain ⟨f1, f2, f3, f4, _, _, _⟩ := HN.out.fit l[k] (List.getElem_mem _)
      have hok := Lib.hid (okP_step hkl)
      have hen := Lib.hid (encP_step hkl)
      have hbad := Lib.hid (okP_bad hkl)
      have hle := Lib.hid (encP_le (l := l.take k) fun p hp => (HN.out.fit p (List.mem_of_mem_take hp)).2.1)
      generalize l[k].1.1 = wd at *
      generalize l[k].1.2.1 = lo at *
      generalize l[k].1.2.2 = hi at *
      generalize l[k].2 = x at *
      generalize g k = gk at *
      generalize o k = ok at *
      have hXF := fun F : Obj => two_new8 wr (.cells #[.pointer (some ⟨gk, ok, none⟩), .int .i64 (wd : Int), .int .i64 lo, .int .i64 hi] 73) F
      have HXF := Lib.hid hXF
      have hss : ∀ ob, (wr.alloc ob).heap.size = wr.heap.size + 1 := fun ob => by simp
      have HSS := Lib.hid hss
      clear hXF hss
      by_cases hneg : x < 0
      · have PK := Lib.hid (pack_neg x hneg hb1)
        have hno : Hid (okP l = false) := hbad.out (by rw [← Bool.not_eq_true, inB_iff]; omega)
        go_wp2_with (go_at_call 35; (with_reducible refine (PK.out _ _ _ (HXF.out _).2.1).mono ?_); rintro e w1 ⟨A1, m1, c1, rfl, hb1⟩)
        go_quiet (fail)
        go_wp2
        go_ret
        have h2 := (HXF.out (.cells #[.int .i64 8, .int .i64 x] 76)).2.2
        have h3 : w.heap.size ≤ ((wr.alloc (.cells #[.pointer (some ⟨gk, ok, none⟩), .int .i64 (wd : Int), .int .i64 lo, .int .i64 hi] 73)).alloc (.cells #[.int .i64 8, .int .i64 x] 76)).heap.size := by simp; omega
        exact ⟨by rw [bldP, hno.out]; rfl, below_drewN ((hbel.trans (h2.mono hs)).trans (hb1.mono h3)) _⟩
      · obtain ⟨xn, rfl⟩ := Int.eq_ofNat_of_zero_le (by omega : 0 ≤ x)
        have PK := Lib.hid (pack_one xn (by omega))
        have hcs : ∀ W, NumVar W wr.heap.size (.pointer (some ⟨gk, ok, none⟩)) wd lo hi → _ := fun W => NumVar.facts
        have HCS := Lib.hid hcs
        clear hcs
        have hsz : gk < wr.heap.size := Nat.lt_of_lt_of_le hg hs
        cases hin : inB xn lo hi with
        | false =>
          have HO := Lib.hid (fun W => holds_any8 W (.pointer (some ⟨gk, ok, none⟩)) rfl wd lo hi xn false hin)
          have hno := Lib.hid (hbad.out hin)
          clear hin
          go_wp2_with (go_at_call 35; (with_reducible refine (PK.out _ _ _ (HXF.out _).2.1).mono ?_); rintro e w1 ⟨b1, o1, c1, rfl, hc8, hcm, hB1, hb1⟩)
          have hB1' := Lib.hid hB1
          clear hB1
          have hb2 := (HXF.out (.cells #[.int .i64 8, .int .i64 xn] 76)).2.2
          have hz2 : ((wr.alloc (.cells #[.pointer (some ⟨gk, ok, none⟩), .int .i64 (wd : Int), .int .i64 lo, .int .i64 hi] 73)).alloc (.cells #[.int .i64 8, .int .i64 xn] 76)).heap.size = wr.heap.size + 2 := by simp
          have hb3 := (hb2.trans (hb1.mono (by omega))).drew
          have hx1 : NumVar w1.drew wr.heap.size (.pointer (some ⟨gk, ok, none⟩)) wd lo hi := (hb1.drew.block wr.heap.size (by omega)).trans (HXF.out _).1
          obtain ⟨x0, x1, x2, x3⟩ := HCS.out _ hx1
          have x4 := (hb3.cell (p := ⟨gk, ok, none⟩) hsz).trans hx0
          go_region_held3 (fun W => W.cell? ⟨wr.heap.size, 0, none⟩ = some (.pointer (some ⟨gk, ok, none⟩)) ∧ W.cell? ⟨wr.heap.size, 1, none⟩ = some (.int .i64 wd) ∧ W.cell? ⟨wr.heap.size, 2, none⟩ = some (.int .i64 lo) ∧ W.cell? ⟨wr.heap.size, 3, none⟩ = some (.int .i64 hi) ∧ W.cell? ⟨gk, ok, none⟩ = some (.int .i64 xn))
            (first | exact ⟨x0, x1, x2, x3, x4⟩ | exact ⟨y0, y1, y2, y3, y4⟩)
            (first | (go_at_call 36; (with_reducible refine (HO.out _).mono ?_); rintro e w2 ⟨rfl, hb4⟩; have hb5 := hb3.trans (hb4.mono hb3.size); obtain ⟨y0, y1, y2, y3⟩ := HCS.out _ (hx1.later hb4 (cell_lt x0)); have y4 := (hb5.cell (p := ⟨gk, ok, none⟩) hsz).trans hx0))
          go_wp2
          go_ret
          exact ⟨by rw [bldP, hno.out]; rfl, hbel.trans (hb5.mono hs)⟩
        | true =>
          have HO := Lib.hid (fun W => holds_any8 W (.pointer (some ⟨gk, ok, none⟩)) rfl wd lo hi xn true hin)
          have hok' : Hid (okP (l.take (k + 1)) = true) := by rw [hok.out, hE.out, hin]; rfl
          clear hin
          go_wp2_with (go_at_call 35; (with_reducible refine (PK.out _ _ _ (HXF.out _).2.1).mono ?_); rintro e w1 ⟨b1, o1, c1, rfl, hc8, hcm, hB1, hb1⟩)
          have hB1' := Lib.hid hB1
          clear hB1
          have hb2 := (HXF.out (.cells #[.int .i64 8, .int .i64 xn] 76)).2.2
          have hz2 : ((wr.alloc (.cells #[.pointer (some ⟨gk, ok, none⟩), .int .i64 (wd : Int), .int .i64 lo, .int .i64 hi] 73)).alloc (.cells #[.int .i64 8, .int .i64 xn] 76)).heap.size = wr.heap.size + 2 := by simp
          have hb3 := (hb2.trans (hb1.mono (by omega))).drew
          have hx1 : NumVar w1.drew wr.heap.size (.pointer (some ⟨gk, ok, none⟩)) wd lo hi := (hb1.drew.block wr.heap.size (by omega)).trans (HXF.out _).1
          obtain ⟨x0, x1, x2, x3⟩ := HCS.out _ hx1
          have x4 := (hb3.cell (p := ⟨gk, ok, none⟩) hsz).trans hx0
          go_region_held3 (fun W => W.cell? ⟨wr.heap.size, 0, none⟩ = some (.pointer (some ⟨gk, ok, none⟩)) ∧ W.cell? ⟨wr.heap.size, 1, none⟩ = some (.int .i64 wd) ∧ W.cell? ⟨wr.heap.size, 2, none⟩ = some (.int .i64 lo) ∧ W.cell? ⟨wr.heap.size, 3, none⟩ = some (.int .i64 hi) ∧ W.cell? ⟨gk, ok, none⟩ = some (.int .i64 xn))
            (first | exact ⟨x0, x1, x2, x3, x4⟩ | exact ⟨y0, y1, y2, y3, y4⟩)
            (first | (go_at_call 36; (with_reducible refine (HO.out _).mono ?_); rintro e w2 ⟨rfl, hb4⟩; have hb5 := hb3.trans (hb4.mono hb3.size); obtain ⟨y0, y1, y2, y3⟩ := HCS.out _ (hx1.later hb4 (cell_lt x0)); have y4 := (hb5.cell (p := ⟨gk, ok, none⟩) hsz).trans hx0))
          have hown2 : Hid (w2.ownsRow w.heap.size 5 1 u3 (encP (l.take k)).length (u8s (encP (l.take k)))) := own_below hown hb5
          have hR : Row w2 (some ⟨b1, o1, none⟩) (u8s (encN wd xn)) := by
            have := ((hB1'.out.below (Below.trans (Below.drew (Below.refl _ _)) hb4)).row).take wd
            rwa [u8s_take, encN_take 8 wd xn f2] at this
          have hle' : (encP (l.take k)).length ≤ 800 := by have := hle.out; rw [List.length_take] at this; omega
          go_wp2_with (at_builtin; refine wpList_append_row w2 rfl (.tmp 35) (.tmp 39) _ rfl w.heap.size 5 _ 1 Try.underlying24 info_u8 rfl u3 _ _ rfl hown2 (Nat.le_trans hs hb5.size) _ (u8s (encN wd xn)) wd c1 rfl (by rw [u8s_length, encN_length]) hR (u8s_one _) (by omega) (by omega) ?_; intro v3 w3 ho3 hs3 hb6)
          go_roundw
          case rel =>
            refine ⟨k + 1, by omega, by go_num, hok', ?_, hs3, (hbel.trans (hb5.mono hs)).trans hb6⟩
            have := ho3.out
            rw [← u8s_append] at this
            rw [hen.out, List.length_append, encN_length]
            exact this
          case measure => simp [intOf]; omega
    · obtain rfl : k = n := by omega
      have htk : l.take k = l := List.take_of_length_le (by have := hlen.out; omega)
      have hE' : Hid (okP l = true) := by rw [← htk]; exact hE
      have hown' : wr.ownsRow w.heap.size 5 1 u3 (encP l).length (u8s (encP l)) := by have := hown.out; rwa [htk] at this
      obtain ⟨A', c', hv, hB⟩ := Bytes8.of_own hown'
      have hcv : (convert 24 9 u3).run Try.prog wr = .ok (.string ⟨(encP l).toArray⟩) wr := by rw [hv]; exact run_str hB
      clear hv hB htk hown'
      go_wp2
      go_ret
      exact ⟨by rw [bldP, hE'.out]; rfl, hbel⟩

end Go.Proofs.Ytolapeocdaknjaa
