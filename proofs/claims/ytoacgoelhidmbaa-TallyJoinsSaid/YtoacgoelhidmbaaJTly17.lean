/-
  Joined: ValF, ValG, ValH, ValL.
-/
import Derived.BigRegion
import Derived.Test.YtoacgoelhidmbaaJTly10
import Derived.Test.YtoacgoelhidmbaaJTly01
import Derived.Test.YtoacgoelhidmbaaJTly13
import Derived.Laws.ResultCell
import Derived.OwnWalk
/-
  Layer 8's read.
-/
namespace Go.Proofs.Ytoacgoelhidmbaa
open Go.RowKit
set_option linter.unusedVariables false
set_option linter.unusedSimpArgs false

theorem str_to {s : List UInt8} {k : Nat} (hk : k ≤ s.length) (W : World) : (Instr.slice 9 (.string ⟨s.toArray⟩) none (some (.int .i64 (k : Int))) none).run Try.prog W = .ok (.string ⟨(s.take k).toArray⟩) W := by
  have e : (⟨s.toArray⟩ : ByteArray).extract 0 k = ⟨(s.take k).toArray⟩ := by
    apply ByteArray.ext
    simp [ByteArray.data_extract]
  rw [run_slice_string_h W 9 _ (by kernel_rfl) .i64 (k : Int) (by omega) (by simp [ByteArray.size]; omega), Int.toNat_natCast, e]
theorem str_from {s : List UInt8} {k : Nat} (hk : k ≤ s.length) (W : World) : (Instr.slice 9 (.string ⟨s.toArray⟩) (some (.int .i64 (k : Int))) none none).run Try.prog W = .ok (.string ⟨(s.drop k).toArray⟩) W := by
  have e : (⟨s.toArray⟩ : ByteArray).extract k s.length = ⟨(s.drop k).toArray⟩ := by
    apply ByteArray.ext
    simp [ByteArray.data_extract]
    exact List.take_of_length_le (by simp)
  have e2 : (⟨s.toArray⟩ : ByteArray).size = s.length := by simp [ByteArray.size]
  rw [run_slice_string_l W 9 _ (by kernel_rfl) .i64 (k : Int) (by omega) (by rw [e2]; omega), Int.toNat_natCast, e2, e]

theorem val_splice {t : List UInt8} (h : t.length ≤ 8) : splice (u8s (List.replicate 8 0)) 0 (u8s t) = u8s (t ++ List.replicate (8 - t.length) 0) := by
  have e : splice (u8s (List.replicate 8 0)) 0 (u8s t) = u8s t ++ u8s ((List.replicate 8 0).drop t.length) := by
    rw [← u8s_drop]
    simp [splice, u8s_length]
  rw [e, List.drop_replicate, ← u8s_append]

theorem bytes8_of {W : World} {g wd : Nat} {t : List UInt8} (h : W.heap[g]? = some (.cells (splice (u8s (List.replicate 8 0)) 0 (u8s (⟨t.toArray⟩ : ByteArray).data.toList)).toArray 5 (0, 0))) (ht : t.length = wd) (hw : wd ≤ 8) :
    Bytes8 W (some ⟨g, 0, none⟩) 8 8 (t ++ List.replicate (8 - wd) 0) := by
  have e : (⟨t.toArray⟩ : ByteArray).data.toList = t := rfl
  rw [e, val_splice (by omega), ht] at h
  exact ⟨by rw [List.length_append, ht, List.length_replicate]; omega, Nat.le_refl _, by omega, Row.of_block h⟩

set_option maxRecDepth 100000 in
set_option maxHeartbeats 1600000 in
theorem read_any (w : World) (s : List UInt8) (hs : s.length ≤ 9223372036854775807) (b off n c : Nat) (ns : List NumS) (g o : Nat → Nat) (h : NumsAt w b off n c (rdL s ns) g o) (ht : TgtAt w n g o) (hgb : ∀ k, k < n → g k ≠ b) :
    Calls Try.prog 33 #[.string ⟨s.toArray⟩, .slice (some ⟨b, off, none⟩) n c] w fun e w' => e = .returned (.int .i64 (rdE s ns)) ∧ Frm (tgtG n g) w w' ∧ (rdE s ns ≠ 0 → Below w.heap.size w w') ∧
      (rdE s ns = 0 → ∀ k (hk : k < (rdL s ns).length), w'.cell? ⟨g k, o k, none⟩ = some (.int .i64 (rdL s ns)[k].2)) := by
  have HN := Lib.hid h
  have HT := Lib.hid ht
  have HG := Lib.hid hgb
  have hn := h.small
  have hpos := h.pos
  have hlen := Lib.hid h.len
  have hcap := h.cap
  have hmost := h.most
  have HE : Hid (rdE s ns = if s.length ≠ sizeP (rdL s ns) then 7 else if okP (rdL s ns) then 0 else 2) := by rw [sizeP_rdL]; rfl
  have HAT := Lib.hid (rdL_at ns s)
  have H8 := Lib.hid (fun p hp => (h.fit p hp).2.1)
  generalize rdE s ns = er at *
  generalize rdL s ns = l at *
  have HSZ := Lib.hid (sizeP_le H8.out)
  clear h ht hgb
  go_enter Try.func33, Try.ntmps33
  go_wp2
  go_loopw [5, 18] (fun z i wr => ∃ k : Nat, k ≤ n ∧ i = .int .i64 k ∧ (∃ S : Int, 0 ≤ S ∧ S ≤ 800 ∧ z = .int .i64 S ∧ Hid (S = sizeP (l.take k))) ∧ w.heap.size ≤ wr.heap.size ∧ Below w.heap.size w wr) (fun _ i _ => n - (intOf i).toNat)
  case atStart => exact ⟨0, by omega, rfl, ⟨0, by omega, by omega, rfl, rfl⟩, Nat.le_refl _, Below.refl _ _⟩
  case round =>
    obtain ⟨k, hk, rfl, ⟨S, hS0, hS1, rfl, hS⟩, hsz, hbel⟩ := hrel
    by_cases hlt : k < n
    · have hkl : k < l.length := by have := hlen.out; omega
      obtain ⟨h0, h1, h2, h3⟩ := (HN.out.later hbel.size (hbel.block b HN.out.lt)).row k hkl
      have hst := Lib.hid (sizeP_step hkl)
      have h8 := H8.out l[k] (List.getElem_mem _)
      have hle2 := sizeP_le (l := l.take (k + 1)) fun p hp => H8.out p (List.mem_of_mem_take hp)
      rw [List.length_take] at hle2
      have hS2 : S + (l[k].1.1 : Int) = sizeP (l.take (k + 1)) := by rw [hst.out, hS.out]; omega
      have hS3 : S + (l[k].1.1 : Int) ≤ 800 := by omega
      have HS2 := Lib.hid hS2
      clear hS2 hle2
      generalize l[k].1.1 = wd at *
      generalize l[k].1.2.1 = lo at *
      generalize l[k].1.2.2 = hi at *
      go_wp2
      go_roundw
      case rel => exact ⟨k + 1, by omega, by go_num, ⟨S + wd, by omega, hS3, rfl, HS2.out⟩, by simp; omega, hbel.alloc hsz _⟩
      case measure => simp [intOf]; omega
    · obtain rfl : n = k := by omega
      have htk : l.take n = l := List.take_of_length_le (by have := hlen.out; omega)
      rw [htk] at hS
      by_cases hl : (s.length : Int) = S
      · have hlN : s.length = sizeP l := by rw [hS.out] at hl; omega
        have HLN := Lib.hid hlN
        subst hl
        have hne : ((s.length : Int) != (s.length : Int)) = false := by simp
        clear hlN hS hS0 hS1
        go_wp2
        clear hne
        go_loopw [0, 8, 33] (fun st v i wr => ∃ k : Nat, k ≤ n ∧ i = .int .i64 k ∧ (∃ r : List UInt8, st = .string ⟨r.toArray⟩ ∧ Hid (r = s.drop (sizeP (l.take k)))) ∧ Hid (okP (l.take k) = true) ∧ Hid (wr.ownsRow w.heap.size 3 1 v k (i64s ((l.map (·.2)).take k))) ∧ w.heap.size ≤ wr.heap.size ∧ Below w.heap.size w wr) (fun _ _ i _ => n - (intOf i).toNat)
        case atStart => exact ⟨0, by omega, rfl, ⟨s, rfl, rfl⟩, rfl, World.ownsRow_nil _ _ _ _, hsz, hbel⟩
        case round =>
          clear hsz hbel
          obtain ⟨k, hk, rfl, ⟨r, rfl, hr⟩, hE, hown, hsz, hbel⟩ := hrel
          by_cases hlt : k < n
          · have hkl : k < l.length := by have := hlen.out; omega
            obtain ⟨h0, h1, h2, h3⟩ := (HN.out.later hbel.size (hbel.block b HN.out.lt)).row k hkl
            have hat : l[k].2 = (leN (r.take l[k].1.1) : Int) := by rw [HAT.out k hkl, hr.out]
            have hst := sizeP_step hkl
            have hwr : l[k].1.1 ≤ r.length := by
              have := sizeP_take_le l (k + 1)
              rw [hr.out, List.length_drop, HLN.out]
              omega
            have hrn : Hid (r.drop l[k].1.1 = s.drop (sizeP (l.take (k + 1)))) := by rw [hr.out, List.drop_drop, hst]; rfl
            obtain ⟨f1, f2, f3, f4, _, _, _⟩ := HN.out.fit l[k] (List.getElem_mem _)
            have hok := Lib.hid (okP_step hkl)
            have hbad := Lib.hid (okP_bad hkl)
            have hmp : Hid ((l.map (·.2)).take (k + 1) = (l.map (·.2)).take k ++ [l[k].2]) := by
              rw [List.take_succ_eq_append_getElem (by simpa using hkl), List.getElem_map]; rfl
            have hXB : Hid (∀ ob, Below wr.heap.size wr (wr.alloc ob)) := fun ob => (Below.refl _ _).alloc (Nat.le_refl _) ob
            have hXZ : Hid (∀ ob, (wr.alloc ob).heap.size = wr.heap.size + 1) := fun ob => by simp
            rw [hat] at hok hbad hmp
            generalize l[k].1.1 = wd at *
            generalize l[k].1.2.1 = lo at *
            generalize l[k].1.2.2 = hi at *
            generalize g k = gk at *
            generalize o k = ok at *
            have hS1 := str_to hwr
            have hS2 := str_from hwr
            have htl : (r.take wd).length = wd := by rw [List.length_take]; omega
            have hsz1 : (⟨(r.take wd).toArray⟩ : ByteArray).size = wd := by rw [← htl]; simp [ByteArray.size]
            have h8l : (r.take wd ++ List.replicate (8 - wd) 0).length = 8 := by rw [List.length_append, htl, List.length_replicate]; omega
            have hle8 : leN (r.take wd ++ List.replicate (8 - wd) 0) = leN (r.take wd) := leN_zeros _ _
            obtain ⟨g1, g2⟩ := val_get_in h8l
            rw [hle8] at g1 g2
            have GA := Lib.hid (fun (W : World) (q : Nat) (hB : Bytes8 W (some ⟨q, 0, none⟩) 8 8 (r.take wd ++ List.replicate (8 - wd) 0)) => Get_any _ 8 8 _ 0 8 W hB (by omega))
            have BOF := Lib.hid (fun (W : World) (q : Nat) h => bytes8_of (W := W) (g := q) h htl f2)
            generalize r.take wd ++ List.replicate (8 - wd) 0 = l8 at *
            generalize leN (r.take wd) = x at *
            obtain ⟨i0, hi0, hz0, hz1, hz2⟩ := info_parts info_u8
            clear h8l hle8 hat hst htl
            by_cases hbig : 9223372036854775808 ≤ x
            · obtain ⟨q1, q2⟩ := g2 hbig
              rw [q1, q2] at GA
              have hno : Hid (okP l = false) := hbad.out (by rw [← Bool.not_eq_true, inB_iff]; omega)
              clear g1 g2 q1 q2 hbig
              go_wp2_with (first
                | (at_make; have hX1 := heap_alloc_new wr (.cells #[.pointer (some ⟨gk, ok, none⟩), .int .i64 (wd : Int), .int .i64 lo, .int .i64 hi] 56); have hXb := hXB.out (.cells #[.pointer (some ⟨gk, ok, none⟩), .int .i64 (wd : Int), .int .i64 lo, .int .i64 hi] 56); have hXs := hXZ.out (.cells #[.pointer (some ⟨gk, ok, none⟩), .int .i64 (wd : Int), .int .i64 lo, .int .i64 hi] 56); generalize wr.alloc (.cells #[.pointer (some ⟨gk, ok, none⟩), .int .i64 (wd : Int), .int .i64 lo, .int .i64 hi] 56) = WX at hX1 hXb hXs ⊢; refine wpList_make_full WX rfl (.const (.int .i64 8)) (.const (.int .i64 8)) _ rfl WX.heap.size 5 i0 _ 1 Try.underlying65 hi0 hz0 hz1 .i64 .i64 _ _ 8 rfl rfl rfl rfl (by rw [hz2]; omega) (by simp only [maxLen]; omega) (Nat.le_refl _) ?_; intro w1 hown1 hg1; have hb1 := below_of_grown hg1 (by simp); have HO1 := Lib.hid (own_zeros hown1 (Nat.le_refl _)).blk; rw [hXs] at HO1; clear hown1; have hx1 := (NumVar.later (q := wr.heap.size) hX1 hb1 (by omega)).facts; obtain ⟨_, y1, _, _⟩ := hx1)
                | (refine wpList_copy_str rfl (.tmp 38) (.tmp 42) _ _ rfl 5 Try.underlying65 size_u8 (wr.heap.size + 1) 0 8 8 ⟨(r.take wd).toArray⟩ wd hsz1 rfl rfl (by omega) (u8s (List.replicate 8 0)) 5 HO1.out (by rw [u8s_length, List.length_replicate]; omega) WX.heap.size WX hb1 (by omega) ?_; intro w2 HG2 hb2; have hx2 := (NumVar.later (q := wr.heap.size) hX1 hb2 (by omega)); obtain ⟨_, z1, _, _⟩ := hx2.facts; have HB2 := Lib.hid (BOF.out _ _ HG2.out); have HX2 := Lib.hid hx2; clear hx2)
                | (go_at_call 38; (with_reducible refine (GA.out _ _ HB2.out).mono ?_); rintro e w3 ⟨rfl, hb3⟩; have hx3 := HX2.out.later hb3 (Nat.lt_of_lt_of_le (by omega) hb2.size); obtain ⟨x0, x1, x2, x3⟩ := hx3.facts; have hb13 := hXb.trans ((hb2.trans (hb3.mono hb2.size)).mono (by omega))))
              go_ret
              have hr2 : er = 2 := by rw [HE.out, if_neg (by rw [HLN.out]; simp), if_neg (by rw [hno.out]; simp)]
              have hbe := hbel.trans (hb13.mono hsz)
              exact ⟨by rw [hr2]; rfl, Frm.of_below hbe, fun _ => hbe, fun e => by rw [hr2] at e; cases e⟩
            · obtain ⟨q1, q2⟩ := g1 (by omega)
              rw [q1, q2] at GA
              clear g1 g2 q1 q2
              cases hin : inB x lo hi with
              | false =>
                have HO := Lib.hid (fun W => holds_any8 W (.pointer (some ⟨gk, ok, none⟩)) rfl wd lo hi x false hin)
                have hno := Lib.hid (hbad.out hin)
                clear hin
                go_wp2_with (first
                  | (at_make; have hX1 := heap_alloc_new wr (.cells #[.pointer (some ⟨gk, ok, none⟩), .int .i64 (wd : Int), .int .i64 lo, .int .i64 hi] 56); have hXb := hXB.out (.cells #[.pointer (some ⟨gk, ok, none⟩), .int .i64 (wd : Int), .int .i64 lo, .int .i64 hi] 56); have hXs := hXZ.out (.cells #[.pointer (some ⟨gk, ok, none⟩), .int .i64 (wd : Int), .int .i64 lo, .int .i64 hi] 56); generalize wr.alloc (.cells #[.pointer (some ⟨gk, ok, none⟩), .int .i64 (wd : Int), .int .i64 lo, .int .i64 hi] 56) = WX at hX1 hXb hXs ⊢; refine wpList_make_full WX rfl (.const (.int .i64 8)) (.const (.int .i64 8)) _ rfl WX.heap.size 5 i0 _ 1 Try.underlying65 hi0 hz0 hz1 .i64 .i64 _ _ 8 rfl rfl rfl rfl (by rw [hz2]; omega) (by simp only [maxLen]; omega) (Nat.le_refl _) ?_; intro w1 hown1 hg1; have hb1 := below_of_grown hg1 (by simp); have HO1 := Lib.hid (own_zeros hown1 (Nat.le_refl _)).blk; rw [hXs] at HO1; clear hown1; have hx1 := (NumVar.later (q := wr.heap.size) hX1 hb1 (by omega)).facts; obtain ⟨_, y1, _, _⟩ := hx1)
                  | (refine wpList_copy_str rfl (.tmp 38) (.tmp 42) _ _ rfl 5 Try.underlying65 size_u8 (wr.heap.size + 1) 0 8 8 ⟨(r.take wd).toArray⟩ wd hsz1 rfl rfl (by omega) (u8s (List.replicate 8 0)) 5 HO1.out (by rw [u8s_length, List.length_replicate]; omega) WX.heap.size WX hb1 (by omega) ?_; intro w2 HG2 hb2; have hx2 := (NumVar.later (q := wr.heap.size) hX1 hb2 (by omega)); obtain ⟨_, z1, _, _⟩ := hx2.facts; have HB2 := Lib.hid (BOF.out _ _ HG2.out); have HX2 := Lib.hid hx2; clear hx2)
                  | (go_at_call 38; (with_reducible refine (GA.out _ _ HB2.out).mono ?_); rintro e w3 ⟨rfl, hb3⟩; have hx3 := HX2.out.later hb3 (Nat.lt_of_lt_of_le (by omega) hb2.size); obtain ⟨x0, x1, x2, x3⟩ := hx3.facts; have hb13 := hXb.trans ((hb2.trans (hb3.mono hb2.size)).mono (by omega)))
                  | (go_at_call 31; (with_reducible refine (HO.out _).mono ?_); rintro e w4 ⟨rfl, hb4⟩; have hb14 := hb13.trans (hb4.mono hb13.size)))
                go_ret
                have hr2 : er = 2 := by rw [HE.out, if_neg (by rw [HLN.out]; simp), if_neg (by rw [hno.out]; simp)]
                have hbe := hbel.trans (hb14.mono hsz)
                exact ⟨by rw [hr2]; rfl, Frm.of_below hbe, fun _ => hbe, fun e => by rw [hr2] at e; cases e⟩
              | true =>
                have HO := Lib.hid (fun W => holds_any8 W (.pointer (some ⟨gk, ok, none⟩)) rfl wd lo hi x true hin)
                have hok' : Hid (okP (l.take (k + 1)) = true) := by rw [hok.out, hE.out, hin]; rfl
                clear hin
                go_wp2_with (first
                  | (at_make; have hX1 := heap_alloc_new wr (.cells #[.pointer (some ⟨gk, ok, none⟩), .int .i64 (wd : Int), .int .i64 lo, .int .i64 hi] 56); have hXb := hXB.out (.cells #[.pointer (some ⟨gk, ok, none⟩), .int .i64 (wd : Int), .int .i64 lo, .int .i64 hi] 56); have hXs := hXZ.out (.cells #[.pointer (some ⟨gk, ok, none⟩), .int .i64 (wd : Int), .int .i64 lo, .int .i64 hi] 56); generalize wr.alloc (.cells #[.pointer (some ⟨gk, ok, none⟩), .int .i64 (wd : Int), .int .i64 lo, .int .i64 hi] 56) = WX at hX1 hXb hXs ⊢; refine wpList_make_full WX rfl (.const (.int .i64 8)) (.const (.int .i64 8)) _ rfl WX.heap.size 5 i0 _ 1 Try.underlying65 hi0 hz0 hz1 .i64 .i64 _ _ 8 rfl rfl rfl rfl (by rw [hz2]; omega) (by simp only [maxLen]; omega) (Nat.le_refl _) ?_; intro w1 hown1 hg1; have hb1 := below_of_grown hg1 (by simp); have HO1 := Lib.hid (own_zeros hown1 (Nat.le_refl _)).blk; rw [hXs] at HO1; clear hown1; have hx1 := (NumVar.later (q := wr.heap.size) hX1 hb1 (by omega)).facts; obtain ⟨_, y1, _, _⟩ := hx1)
                  | (refine wpList_copy_str rfl (.tmp 38) (.tmp 42) _ _ rfl 5 Try.underlying65 size_u8 (wr.heap.size + 1) 0 8 8 ⟨(r.take wd).toArray⟩ wd hsz1 rfl rfl (by omega) (u8s (List.replicate 8 0)) 5 HO1.out (by rw [u8s_length, List.length_replicate]; omega) WX.heap.size WX hb1 (by omega) ?_; intro w2 HG2 hb2; have hx2 := (NumVar.later (q := wr.heap.size) hX1 hb2 (by omega)); obtain ⟨_, z1, _, _⟩ := hx2.facts; have HB2 := Lib.hid (BOF.out _ _ HG2.out); have HX2 := Lib.hid hx2; clear hx2)
                  | (go_at_call 38; (with_reducible refine (GA.out _ _ HB2.out).mono ?_); rintro e w3 ⟨rfl, hb3⟩; have hx3 := HX2.out.later hb3 (Nat.lt_of_lt_of_le (by omega) hb2.size); obtain ⟨x0, x1, x2, x3⟩ := hx3.facts; have hb13 := hXb.trans ((hb2.trans (hb3.mono hb2.size)).mono (by omega)))
                  | (go_at_call 31; (with_reducible refine (HO.out _).mono ?_); rintro e w4 ⟨rfl, hb4⟩; have hb14 := hb13.trans (hb4.mono hb13.size); have hown4 := own_below hown hb14)
                  | (at_builtin; refine wpList_append_new w4 rfl (.tmp 61) (.tmp 63) _ rfl w.heap.size 3 _ _ 8 Try.underlying22 info_i64 rfl u8 _ _ rfl hown4 (Nat.le_trans hsz hb14.size) [_] 1 1 rfl rfl (by simp [Value.oneCell']) (by omega) (by omega) ?_; intro v5 w5 ho5 hs5 hb5))
                go_roundw
                case rel =>
                  refine ⟨k + 1, by omega, by go_num, ⟨_, rfl, hrn⟩, hok', ?_, hs5, (hbel.trans (hb14.mono hsz)).trans hb5⟩
                  have := ho5.out
                  rw [hmp.out, i64s_append]
                  exact this
                case measure => simp [intOf]; omega
          · obtain rfl : n = k := by omega
            have htk : l.take n = l := List.take_of_length_le (by have := hlen.out; omega)
            have htk2 : (l.map (·.2)).take n = l.map (·.2) := List.take_of_length_le (by have := hlen.out; simp; omega)
            have hr0 : Hid (er = 0) := by
              have hE' := hE.out
              rw [htk] at hE'
              rw [HE.out, if_neg (by rw [HLN.out]; simp), if_pos hE']
              rfl
            have hown' := hown.out
            rw [htk2] at hown'
            obtain ⟨A', c', rfl, hI⟩ := Ints.of_own hown'
            obtain ⟨bg, og, rfl, hbg, hcg⟩ := hI.row.lit (by rw [i64s_length]; simp; have := hlen.out; omega)
            have hbg2 : w.heap.size ≤ bg := (own_apart hown' bg rfl).1
            have hc1 := hI.cap
            have hc2 := hI.most
            have HCG := Lib.hid hcg
            clear hown hown' hr htk htk2 hE hI hcg
            obtain ⟨W2, rfl⟩ : ∃ W2 : World, W2 = wr := ⟨wr, rfl⟩
            have HBEL := Lib.hid hbel
            have HT2 := Lib.hid (HT.out.later hbel)
            clear hbel
            go_wp2
            go_loopw [68] (fun i wr => ∃ k : Nat, k ≤ n ∧ i = .int .i64 k ∧ Hid (TgtAt wr n g o) ∧ Hid (Frm (tgtG n g) W2 wr) ∧ Hid (∀ j (h : j < l.length), j < k → wr.cell? ⟨g j, o j, none⟩ = some (.int .i64 l[j].2))) (fun i _ => n - (intOf i).toNat)
            case atStart => exact ⟨0, by omega, rfl, HT2.out, Frm.of_below (Below.refl _ _), fun j _ h => by omega⟩
            case round =>
              obtain ⟨k, hk, rfl, hT, hF, hD⟩ := hrel
              by_cases hlt : k < n
              · have hkl : k < l.length := by have := hlen.out; omega
                have hnb : ¬ tgtG n g b := fun ⟨j, hj, e⟩ => HG.out j hj e
                have hnbg : ¬ tgtG n g bg := fun ⟨j, hj, e⟩ => by have := HT.out.lt hj; omega
                obtain ⟨h0, h1, h2, h3⟩ := (HN.out.later (Nat.le_trans HBEL.out.size hF.out.size) ((hF.out.block b (Nat.lt_of_lt_of_le HN.out.lt HBEL.out.size) hnb).trans (HBEL.out.block b HN.out.lt))).row k hkl
                have hc0 := HCG.out k _ (i64s_at (l.map (·.2)) k (by simpa using hkl))
                rw [List.getElem_map] at hc0
                have hcc : wr.cell? ⟨bg, og + k, none⟩ = some (.int .i64 l[k].2) := (World.cell?_of_block (w := W2) (a := ⟨bg, og + k, none⟩) (hF.out.block bg hbg hnbg)).trans hc0
                have hal : ∀ ob, Below wr.heap.size wr (wr.alloc ob) := fun ob => (Below.refl _ _).alloc (Nat.le_refl _) ob
                have q1 : ∀ ob, (wr.alloc ob).cell? ⟨bg, og + k, none⟩ = some (.int .i64 l[k].2) := fun ob => ((hal ob).cell (p := ⟨bg, og + k, none⟩) (cell_lt hcc)).trans hcc
                obtain ⟨⟨v0, hv0⟩, hfz⟩ := hT.out.cell hlt
                have q2 : ∀ ob, (wr.alloc ob).cell? ⟨g k, o k, none⟩ = some v0 := fun ob => ((hal ob).cell (p := ⟨g k, o k, none⟩) (cell_lt hv0)).trans hv0
                have q3 : ∀ ob, (wr.alloc ob).frozen? ⟨g k, o k, none⟩ = false := fun ob => ((hal ob).frozen (p := ⟨g k, o k, none⟩) (cell_lt hv0)).trans hfz
                have HAL := Lib.hid hal
                clear hnb hnbg hc0 hal hv0 hfz hcc
                go_wp2
                go_region
                go_wp2
                go_roundw
                case rel =>
                  obtain ⟨s1, s2, s3⟩ := tgt_step hT.out hF.out hD.out hlen.out hkl (.cells #[.pointer (some ⟨g k, o k, none⟩), .int .i64 (l[k].1.1 : Int), .int .i64 l[k].1.2.1, .int .i64 l[k].1.2.2] 56)
                  exact ⟨k + 1, by omega, by go_num, s1, s2, s3⟩
                case measure => simp [intOf]; omega
              · obtain rfl : n = k := by omega
                go_wp2
                go_ret
                exact ⟨by rw [hr0.out]; rfl, (Frm.of_below HBEL.out).trans hF.out, fun e => absurd hr0.out e, fun _ j hj => hD.out j hj (by have := hlen.out; omega)⟩
      · have hr : Hid (er = 7) := by rw [HE.out, if_pos (by rw [hS.out] at hl; omega)]; rfl
        have hne : ((s.length : Int) != S) = true := by rw [bne_iff_ne]; exact hl
        clear hl
        go_wp2
        go_ret
        exact ⟨by rw [hr.out]; rfl, Frm.of_below hbel, fun _ => hbel, fun e => by rw [hr.out] at e; cases e⟩

end Go.Proofs.Ytoacgoelhidmbaa

/-
  Layer 8's ReadMap, ReadDetail, ReadSlot, ReadRoot, ReadCount.
-/
namespace Go.Proofs.Ytoacgoelhidmbaa
open Go.RowKit
set_option linter.unusedVariables false
set_option linter.unusedSimpArgs false

/-- the number k of what is read; 0 with an error -/
def rdV (s : List UInt8) (ns : List NumS) (k : Nat) : Int := if rdE s ns = 0 then (psI s ns).getD k 0 else 0

theorem rdL_snd {s : List UInt8} {ns : List NumS} {k : Nat} (h : k < (rdL s ns).length) : (rdL s ns)[k].2 = (psI s ns).getD k 0 := by
  rw [← psI_rdL, List.getD_eq_getElem?_getD, List.getElem?_map, List.getElem?_eq_getElem h]
  rfl

theorem read_zero (w : World) (s : List UInt8) (hs : s.length ≤ 9223372036854775807) (q n : Nat) (ns : List NumS) (hl : ns.length = n) (h0 : 0 < n) (hn : n ≤ 100) (hf : ∀ p ∈ ns, fitN p) (g o : Nat → Nat) (h : numRow w q (numC g o (rdL s ns) 0).toArray) (ht : TgtAt w n g o) (hgb : ∀ k, k < n → g k ≠ q)
    (hz : ∀ k, k < n → w.cell? ⟨g k, o k, none⟩ = some (.int .i64 0)) :
    Calls Try.prog 33 #[.string ⟨s.toArray⟩, .slice (some ⟨q, 0, none⟩) n n] w fun e w' => e = .returned (.int .i64 (rdE s ns)) ∧ Frm (tgtG n g) w w' ∧ ∀ k, k < n → w'.cell? ⟨g k, o k, none⟩ = some (.int .i64 (rdV s ns k)) := by
  refine (read_any w s hs q 0 n n ns g o (nums_new h (by rw [rdL_length]; exact hl) h0 hn (fit_zip hf _)) ht hgb).mono ?_
  rintro e w' ⟨rfl, hF, h1, h2⟩
  refine ⟨rfl, hF, fun k hk => ?_⟩
  by_cases he : rdE s ns = 0
  · have hkl : k < (rdL s ns).length := by rw [rdL_length]; omega
    rw [rdV, if_pos he, ← rdL_snd hkl]
    exact h2 he k hkl
  · rw [rdV, if_neg he]
    have hc := hz k hk
    exact ((h1 he).cell (p := ⟨g k, o k, none⟩) (cell_lt hc)).trans hc

/-! ### one integer in a variable -/
def IntVar (w : World) (g : Nat) (x : Int) : Prop := w.heap[g]? = some (.cells #[.int .i64 x] 3 (0, 0))
theorem IntVar.cell {w : World} {g : Nat} {x : Int} (h : IntVar w g x) : w.cell? ⟨g, 0, none⟩ = some (.int .i64 x) := by rw [cell_of_row w g 0 _ _ _ h]; rfl

set_option maxRecDepth 100000 in
set_option maxHeartbeats 400000 in
theorem ReadCount_anyL (w : World) (s : List UInt8) (hs : s.length ≤ 9223372036854775807) :
    Calls Try.prog 28 #[.string ⟨s.toArray⟩] w fun e w' => e = .returned (.tuple #[.int .i64 (rdV s countS 0), .int .i64 (rdE s countS)]) ∧ Below w.heap.size w w' := by
  have MP := Lib.hid (count_any (w.alloc (.cells #[.int .i64 0] 3)) w.heap.size 0)
  have h1 := heap_alloc_new w (.cells #[.int .i64 0] 3)
  have hb0 : Below w.heap.size w (w.alloc (.cells #[.int .i64 0] 3)) := (Below.refl _ _).alloc (Nat.le_refl _) _
  have hz : (w.alloc (.cells #[.int .i64 0] 3)).heap.size = w.heap.size + 1 := by simp
  have RD : Hid (∀ (W : World), Below (w.heap.size + 1) (w.alloc (.cells #[.int .i64 0] 3)) W →
      Calls Try.prog 33 #[.string ⟨s.toArray⟩, .slice (some ⟨W.heap.size, 0, none⟩) 1 1] (W.alloc (.cells #[.pointer (some ⟨w.heap.size, 0, none⟩), .int .i64 4, .int .i64 3, .int .i64 2147483647] 56)) fun e w' => e = .returned (.int .i64 (rdE s countS)) ∧ Below w.heap.size w w' ∧ w'.cell? ⟨w.heap.size, 0, none⟩ = some (.int .i64 (rdV s countS 0))) := by
    intro W hW
    have hWb : Below W.heap.size W (W.alloc (.cells #[.pointer (some ⟨w.heap.size, 0, none⟩), .int .i64 4, .int .i64 3, .int .i64 2147483647] 56)) := (Below.refl _ _).alloc (Nat.le_refl _) _
    have hsz := hW.size
    rw [hz] at hsz
    have e0 : IntVar (W.alloc (.cells #[.pointer (some ⟨w.heap.size, 0, none⟩), .int .i64 4, .int .i64 3, .int .i64 2147483647] 56)) w.heap.size 0 := (hWb.block _ (by omega)).trans ((hW.block _ (by omega)).trans h1)
    have hT : TgtAt (W.alloc (.cells #[.pointer (some ⟨w.heap.size, 0, none⟩), .int .i64 4, .int .i64 3, .int .i64 2147483647] 56)) 1 (fun _ => w.heap.size) o0 := ⟨fun k hk => ⟨_, _, e0, (by decide : (0 : Nat) < 1)⟩, fun i j hij hj => by omega⟩
    refine (read_zero _ s hs W.heap.size 1 countS rfl (by omega) (by omega) countS_fit (fun _ => w.heap.size) o0 (heap_alloc_new W _) hT ?_ ?_).mono ?_
    · intro k hk; simp; omega
    · intro k hk; exact e0.cell
    · rintro e w' ⟨rfl, hF, hv⟩
      refine ⟨rfl, hF.below ((hb0.trans (hW.mono (by omega))).trans (hWb.mono (by omega))) ?_, hv 0 (by omega)⟩
      rintro x ⟨k, hk, rfl⟩
      exact Nat.le_refl _
  have HZ := Lib.hid hz
  clear h1 hb0 hz hs
  generalize rdE s countS = er at *
  generalize rdV s countS 0 = v0 at *
  go_enter Try.func28, Try.ntmps28
  go_wp2_with (first
    | (go_at_call 25; (with_reducible refine (MP.out).mono ?_); rintro e w1 ⟨rfl, hb1⟩; rw [HZ.out] at hb1)
    | (go_at_call 33; (with_reducible refine (RD.out w1 hb1).mono ?_); rintro e w2 ⟨rfl, hb2, c0⟩))
  go_ret2
  exact ⟨rfl, hb2⟩
end Go.Proofs.Ytoacgoelhidmbaa

/-
  Layer 8's ReadDetail, ReadSlot.
-/
namespace Go.Proofs.Ytoacgoelhidmbaa
open Go.RowKit
set_option linter.unusedVariables false
set_option linter.unusedSimpArgs false

end Go.Proofs.Ytoacgoelhidmbaa

/-
  Layer 8: lives; values as texts.
-/
namespace Go.Proofs.Ytoacgoelhidmbaa
open Go.RowKit
set_option linter.unusedVariables false
set_option linter.unusedSimpArgs false

end Go.Proofs.Ytoacgoelhidmbaa
