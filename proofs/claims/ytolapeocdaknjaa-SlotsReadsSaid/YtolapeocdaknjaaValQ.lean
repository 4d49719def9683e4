/-
  Layer 8's reference: Map, Detail, Slot, Root, Count.
-/
import Derived.Test.YtolapeocdaknjaaValP
namespace Go.Proofs.Ytolapeocdaknjaa
open Go.RowKit
set_option linter.unusedVariables false
set_option linter.unusedSimpArgs false

theorem ints_new {W : World} {q n : Nat} {t : TypeId} {l : List Int} (h : W.heap[q]? = some (.cells (i64s l).toArray t (0, 0))) (hl : l.length = n) (hn : n ≤ 100) : Ints W (some ⟨q, 0, none⟩) n n l := ⟨hl, Nat.le_refl _, by omega, Row.of_block h⟩

theorem text_new (w : World) (l : List (Nat × Nat)) (n : Nat) (hl : l.length = n) (h0 : 0 < n) (hn : n ≤ 100) (hw : ∀ p ∈ l, p.1 ≤ 8 ∧ p.2 < 9223372036854775808) :
    Calls Try.prog 29 #[.slice (some ⟨w.heap.size, 0, none⟩) n n, .slice (some ⟨w.heap.size + 1, 0, none⟩) n n] ((w.alloc (.cells (i64s (l.map fun p => (p.2 : Int))).toArray 3)).alloc (.cells (i64s (l.map fun p => (p.1 : Int))).toArray 3)) fun e w' => e = .returned (.string ⟨(encT l).toArray⟩) ∧ Below w.heap.size w w' := by
  obtain ⟨h1, h2, h3⟩ := two_new8 w (.cells (i64s (l.map fun p => (p.2 : Int))).toArray 3) (.cells (i64s (l.map fun p => (p.1 : Int))).toArray 3)
  exact (text_any _ w.heap.size 0 n (w.heap.size + 1) 0 n n l hl h0 hn hw (ints_new h1 (by simpa using hl) hn) (ints_new h2 (by simpa using hl) hn)).mono fun e w' ⟨g1, g2⟩ => ⟨g1, h3.trans (g2.mono h3.size)⟩

theorem encT_zip {ns : List NumS} {vs : List Int} : encT ((ns.zip vs).map fun p => (p.1.1, p.2.toNat)) = encP (ns.zip vs) := by
  simp only [encT, encP, List.flatMap_map]

theorem bldP_ok {l : List (NumS × Int)} (h : okP l = true) : bldP l = encP l := by rw [bldP, if_pos h]
theorem bldP_no {l : List (NumS × Int)} (h : okP l = false) : bldP l = [] := by rw [bldP, h]; rfl

/-- the widths and the numbers of a list that may be built -/
theorem zip_fit {ns : List NumS} {vs : List Int} (hf : ∀ p ∈ ns, fitN p) (ho : okP (ns.zip vs) = true) : ∀ p ∈ (ns.zip vs).map (fun p => (p.1.1, p.2.toNat)), p.1 ≤ 8 ∧ p.2 < 9223372036854775808 := by
  intro p hp
  obtain ⟨q, hq, rfl⟩ := List.mem_map.1 hp
  have h1 := List.all_eq_true.1 (show (ns.zip vs).all _ = true from ho) q hq
  rw [inB_iff] at h1
  obtain ⟨_, f2, f3, f4, _⟩ := fit_zip hf vs q hq
  refine ⟨f2, ?_⟩
  simp only
  omega

/-- text of a list that may be built -/
theorem text_zip (w : World) (ns : List NumS) (vs : List Int) (n : Nat) (hn : (ns.zip vs).length = n) (h0 : 0 < n) (h1 : n ≤ 100) (hf : ∀ p ∈ ns, fitN p) (ho : okP (ns.zip vs) = true) (cs : Array Value) (ds : Array Value) (hc : cs = (i64s ((ns.zip vs).map (·.2))).toArray) (hd : ds = (i64s ((ns.zip vs).map fun p => (p.1.1 : Int))).toArray) :
    Calls Try.prog 29 #[.slice (some ⟨w.heap.size, 0, none⟩) n n, .slice (some ⟨w.heap.size + 1, 0, none⟩) n n] ((w.alloc (.cells cs 3)).alloc (.cells ds 3)) fun e w' => e = .returned (.string ⟨(bldP (ns.zip vs)).toArray⟩) ∧ Below w.heap.size w w' := by
  have h := text_new w ((ns.zip vs).map fun p => (p.1.1, p.2.toNat)) n (by rw [List.length_map]; exact hn) h0 h1 (zip_fit hf ho)
  rw [encT_zip, List.map_map, List.map_map] at h
  have e1 : ((ns.zip vs).map ((fun p : Nat × Nat => (p.2 : Int)) ∘ fun p => (p.1.1, p.2.toNat))) = (ns.zip vs).map (·.2) := by
    apply List.map_congr_left
    intro q hq
    have h1 := List.all_eq_true.1 (show (ns.zip vs).all _ = true from ho) q hq
    rw [inB_iff] at h1
    obtain ⟨_, _, f3, _⟩ := fit_zip hf vs q hq
    simp only [Function.comp]
    omega
  rw [e1] at h
  rw [bldP_ok ho, hc, hd]
  exact h

theorem mapB_one {b t : Nat} (hb : b ≤ 65535) (ht : t ≤ 16777215) : mapB b t = encT [(8, b * 16777216 + t)] := by
  have ho : okP (mapS.zip [(t : Int), (b : Int)]) = true := by
    simp only [mapS, List.zip_cons_cons, List.zip_nil_right, okP, List.all_cons, List.all_nil, Bool.and_true, Bool.and_eq_true, inB_iff]
    omega
  rw [mapB, bldP_ok ho]
  have e := encN_append 3 5 t b (by omega)
  have e2 : t + 256 ^ 3 * b = b * 16777216 + t := by omega
  rw [e2] at e
  simp only [encP, mapS, List.zip_cons_cons, List.zip_nil_right, List.flatMap_cons, List.flatMap_nil, List.append_nil, encT, Int.toNat_natCast]
  exact e.symm

set_option maxRecDepth 100000 in
set_option maxHeartbeats 1600000 in
theorem refSlot_any8 (w : World) (x f i : Int) :
    Calls Try.prog 15 #[.agg #[.int .i64 x, .int .i64 f, .int .i64 i]] w fun e w' => e = .returned (.string ⟨(slotB x f i).toArray⟩) ∧ Below w.heap.size w w' := by
  have hb0 : Below w.heap.size w (w.alloc (.cells #[.int .i64 x, .int .i64 f, .int .i64 i] 38)) := (Below.refl _ _).alloc (Nat.le_refl _) _
  have hz1 : (w.alloc (.cells #[.int .i64 x, .int .i64 f, .int .i64 i] 38)).heap.size = w.heap.size + 1 := by simp
  cases e0 : inB x 1 14399 with
  | false =>
    have hno := Lib.hid (bldP_no (l := slotS.zip [x, f, i]) (by simp [okP, slotS, e0]))
    have I0 := Lib.hid (fun W => refIn_any8 x 1 14399 W false e0)
    clear e0 hz1
    go_enter Try.func15, Try.ntmps15
    go_wp2_with (first
      | (go_at_call 28; (with_reducible refine (I0.out _).mono ?_); rintro e w' ⟨rfl, rfl⟩))
    go_ret
    exact ⟨by rw [slotB, hno.out]; rfl, hb0⟩
  | true =>
    cases e1 : inB f 0 960 with
    | false =>
      have hno := Lib.hid (bldP_no (l := slotS.zip [x, f, i]) (by simp [okP, slotS, e0, e1]))
      have I0 := Lib.hid (fun W => refIn_any8 x 1 14399 W true e0)
      have I1 := Lib.hid (fun W => refIn_any8 f 0 960 W false e1)
      clear e0 e1 hz1
      go_enter Try.func15, Try.ntmps15
      go_wp2_with (first
        | (go_at_call 28; (with_reducible refine (I0.out _).mono ?_); rintro e w' ⟨rfl, rfl⟩)
        | (go_at_call 28; (with_reducible refine (I1.out _).mono ?_); rintro e w' ⟨rfl, rfl⟩))
      go_ret
      exact ⟨by rw [slotB, hno.out]; rfl, hb0⟩
    | true =>
      cases e2 : inB i 0 960 with
      | false =>
        have hno := Lib.hid (bldP_no (l := slotS.zip [x, f, i]) (by simp [okP, slotS, e0, e1, e2]))
        have I0 := Lib.hid (fun W => refIn_any8 x 1 14399 W true e0)
        have I1 := Lib.hid (fun W => refIn_any8 f 0 960 W true e1)
        have I2 := Lib.hid (fun W => refIn_any8 i 0 960 W false e2)
        clear e0 e1 e2 hz1
        go_enter Try.func15, Try.ntmps15
        go_wp2_with (first
          | (go_at_call 28; (with_reducible refine (I0.out _).mono ?_); rintro e w' ⟨rfl, rfl⟩)
          | (go_at_call 28; (with_reducible refine (I1.out _).mono ?_); rintro e w' ⟨rfl, rfl⟩)
          | (go_at_call 28; (with_reducible refine (I2.out _).mono ?_); rintro e w' ⟨rfl, rfl⟩))
        go_ret
        exact ⟨by rw [slotB, hno.out]; rfl, hb0⟩
      | true =>
        have ho : okP (slotS.zip [x, f, i]) = true := by simp [okP, slotS, e0, e1, e2]
        have TX : Hid (Calls Try.prog 29 #[.slice (some ⟨w.heap.size + 1, 0, none⟩) 3 3, .slice (some ⟨w.heap.size + 2, 0, none⟩) 3 3] (((w.alloc (.cells #[.int .i64 x, .int .i64 f, .int .i64 i] 38)).alloc (.cells #[.int .i64 x, .int .i64 f, .int .i64 i] 3)).alloc (.cells #[.int .i64 8, .int .i64 4, .int .i64 4] 3)) fun e w' => e = .returned (.string ⟨(bldP (slotS.zip [x, f, i])).toArray⟩) ∧ Below w.heap.size w w') := by
          have h := text_zip (w.alloc (.cells #[.int .i64 x, .int .i64 f, .int .i64 i] 38)) slotS [x, f, i] 3 rfl (by omega) (by omega) slotS_fit ho #[.int .i64 x, .int .i64 f, .int .i64 i] #[.int .i64 8, .int .i64 4, .int .i64 4] rfl rfl
          rw [hz1] at h
          exact h.mono fun e w' ⟨g1, g2⟩ => ⟨g1, hb0.trans (g2.mono (by omega))⟩
        have I0 := Lib.hid (fun W => refIn_any8 x 1 14399 W true e0)
        have I1 := Lib.hid (fun W => refIn_any8 f 0 960 W true e1)
        have I2 := Lib.hid (fun W => refIn_any8 i 0 960 W true e2)
        clear ho e0 e1 e2
        go_enter Try.func15, Try.ntmps15
        go_wp2_with (first
          | (go_at_call 28; (with_reducible refine (I0.out _).mono ?_); rintro e w' ⟨rfl, rfl⟩)
          | (go_at_call 28; (with_reducible refine (I1.out _).mono ?_); rintro e w' ⟨rfl, rfl⟩)
          | (go_at_call 28; (with_reducible refine (I2.out _).mono ?_); rintro e w' ⟨rfl, rfl⟩)
          | (go_at_call 29; refine (TX.out).mono ?_; rintro e w1 ⟨rfl, hb1⟩))
        go_ret
        exact ⟨rfl, hb1⟩

end Go.Proofs.Ytolapeocdaknjaa
