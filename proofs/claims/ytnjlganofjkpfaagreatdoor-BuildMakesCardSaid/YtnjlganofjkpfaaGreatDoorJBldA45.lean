/-
  Joined: BldD, BldE, BldF, BldG, BldH, BldV, BldW, BldLawC.
-/
import Derived.Test.YtnjlganofjkpfaaGreatDoorJBldA44
import Derived.Deep.RegionWith
import Derived.Deep.RegionHeld3
import Derived.Test.YtnjlganofjkpfaaGreatDoorJBldA13
import Derived.Test.YtnjlganofjkpfaaGreatDoorJBldA43
import Derived.Test.YtnjlganofjkpfaaGreatDoorJBldA04
import Derived.Laws.BitsLemmas
import Derived.Test.YtnjlganofjkpfaaGreatDoorJBldA16
import Derived.Test.YtnjlganofjkpfaaGreatDoorJBldA30
/-
  Layer 17: write.
-/
namespace Go.Proofs.YtnjlganofjkpfaaGreatDoor
open Go.RowKit
set_option linter.unusedVariables false
set_option linter.unusedSimpArgs false

theorem upP17_one {l : List Ent17} {m : Nat} {bs : List Int} {t k : Nat} (h : l ≠ []) {key no : Int} (hk : ((l.drop (k * m)).headD (0, [], 0)).1 = key) (hn : bs.getD (t + k) 0 = no) : upP17 m l bs t (k + 1) = upP17 m l bs t k ++ [(key, encN 4 no.toNat, 0)] := by
  rw [upP17_succ h, hk, hn]

theorem cell_kept17 {w w' : World} {ow : Option Nat} {a : Addr} {v : Value} (h : w.cell? a = some v) (hg : w.grownBy w' ow) (hn : ∀ k, ow = some k → k ≠ a.block) : w'.cell? a = some v := (World.cell?_of_block (w := w) (hg.block _ (cell_lt h) (fun e => hn _ e.symm rfl))).trans h

set_option maxRecDepth 100000 in
set_option maxHeartbeats 3200000 in
theorem write_any17 {w : World} {q : Nat} {tree : Int} {leaf : Bool} {mm : Nat} {l : List Ent17} {bs : List Int} {t : Nat} {L : List UInt8} {base p m B g : Nat} {A : Option Addr} {n c : Nat} {A2 : Option Addr} {n2 c2 : Nat} (h : AImg w base p m B g A n c bs t L) (hE : Ens w A2 n2 c2 l) (hfar : 0 < n2 → ∀ ad, A2 = some ad → ad.block ≠ g ∧ ad.block ≠ p) (hEB : EntB l) (hF : LvF17 q tree bs leaf mm l t L) (hB : Bs17 q bs) (ht : i64b tree) :
    Calls Tryz.prog 27 #[.pointer (some ⟨p, 0, none⟩), .int .i64 tree, .bool leaf, .slice A2 n2 c2] w fun e w' => ∃ A3 c3, e = .returned (.tuple #[.slice A3 (upP17 mm l bs t (fil15 l.length mm)).length c3, .int .i64 (bs.getD (t + fil15 l.length mm - 1) 0), .nilIface]) ∧ Ens w' A3 (upP17 mm l bs t (fil15 l.length mm)).length c3 (upP17 mm l bs t (fil15 l.length mm)) ∧ Newer w.heap.size A3 ∧ AImg w' base p m B g A n c bs (t + fil15 l.length mm) (levW17 q tree leaf mm l bs t (fil15 l.length mm) L) ∧ Fr2 w w' (some g) (some p) := by
  obtain rfl : n2 = l.length := hE.len.symm
  have hcap := hE.cap
  have hmost := hE.most
  have hfew := hF.few
  have hpos := hF.pos
  have h18 := cap15_le tree leaf
  rw [hF.cap] at h18
  have hfil := fil15_le (n := l.length) hpos
  have hfp := fil15_pos l.length mm
  have hroom := hF.room
  have hF32 : fil15 l.length mm ≤ 32768 := by omega
  have MX := Lib.hid (fun W => Max_any tree leaf W mm hF.cap)
  have SZ : Hid (Calls Tryz.prog 47 #[.int .i64 (l.length : Int), .int .i64 (mm : Int)] w fun e w' => ∃ As cs, e = .returned (.slice As (fil15 l.length mm) cs) ∧ Ints w' As (fil15 l.length mm) cs (siz15 l.length mm) ∧ (∀ ad, As = some ad → w.heap.size ≤ ad.block) ∧ Below w.heap.size w w') := by
    have := Sizes_any15F (l.length : Int) (mm : Int) w (by omega)
    have e : sizL15 (l.length : Int) (mm : Int) = siz15 l.length mm := by
      rw [sizL15, if_pos (by omega), Int.toNat_natCast, Int.toNat_natCast]
    rw [e, siz15_length] at this
    refine this.mono ?_
    rintro e w' ⟨As, cs, h1, h2, h3, h4⟩
    exact ⟨As, cs, h1, h2, h4, h3⟩
  have hplt := h.alc.plt
  have hglt := h.img.glt
  have HP := Lib.hid (And.intro hplt hglt)
  have PT : Hid (∀ (W : World) (A3 : Option Addr) (c3 k : Nat), Ens W A3 (el15 l.length mm k) c3 ((l.drop (k * mm)).take (el15 l.length mm k)) → Calls Tryz.prog 49 #[.int .i64 tree, .bool leaf, .slice A3 (el15 l.length mm k) c3] W fun e w' => ∃ Ak ck Av cv, e = .returned (.agg #[.int .i64 tree, .bool leaf, .slice Ak (el15 l.length mm k) ck, .slice Av (el15 l.length mm k) cv]) ∧ Hid (NodIn w' (nodB17 tree leaf mm l k) Ak (el15 l.length mm k) ck Av (el15 l.length mm k) cv) ∧ Hid (Below W.heap.size W w') ∧ Hid (Newer W.heap.size Ak)) := fun W A3 c3 k hc => by
    have he15 : el15 l.length mm k ≤ mm := Nat.min_le_right _ _
    have := part_any17 tree leaf W hc (hEB.sub17 fun x hx => List.mem_of_mem_drop (List.mem_of_mem_take hx)) ht (by omega)
    rw [nodB17_chunk tree leaf l rfl] at this
    refine this.mono ?_
    rintro e w' ⟨Ak, ck, Av, cv, h1, h2, h3, h4, _⟩
    exact ⟨Ak, ck, Av, cv, h1, h2, h3, h4⟩
  have LY : Hid (∀ (W w1 : World) (k r s : Nat) (A3 : Option Addr) (n3 c3 : Nat) (va : Value) (Ak : Option Addr) (ck : Nat) (Av : Option Addr) (cv : Nat), k < fil15 l.length mm → Wr17 w1 W q tree leaf mm l bs t L base p m B g A n c k k r A3 n3 c3 va → NodIn W (nodB17 tree leaf mm l k) Ak s ck Av s cv → Calls Tryz.prog 50 #[.pointer (some ⟨p, 0, none⟩), .agg #[.int .i64 tree, .bool leaf, .slice Ak s ck, .slice Av s cv]] W fun e w' => e = .returned (.tuple #[.int .i64 (bs.getD (t + k) 0), .nilIface]) ∧ Hid (Wr17 w1 w' q tree leaf mm l bs t L base p m B g A n c (k + 1) k r A3 n3 c3 va) ∧ Hid (Fr2 W w' (some g) (some p))) := fun W w1 k r s A3 n3 c3 va Ak ck Av cv hk hW hN => by
    refine (lay_any17 hW.ai hB hF.len (by omega) (hF.right k hk) hN).mono ?_
    rintro e w' ⟨h1, h2, h3⟩
    exact ⟨h1, hW.laid h2 h3, h3⟩
  have RT : Hid (∀ (W : World) (k : Nat), k < fil15 l.length mm → Calls Tryz.prog 51 #[.int .i64 (bs.getD (t + k) 0)] W fun e w' => e = .returned (.string ⟨(encN 4 (bs.getD (t + k) 0).toNat).toArray⟩) ∧ Below W.heap.size W w') := fun W k hk => by
    have h1 := hB.low (t + k) (by omega)
    have h2 := hB.most
    have := Root_any W (bs.getD (t + k) 0) (by simp only [i64b]; omega)
    rwa [rootB17 h1.1 (by omega)] at this
  have CF : Hid (∀ (W w1 : World) (i j k r : Nat) (A3 : Option Addr) (c3 : Nat) (va : Value), r = l.length - k * mm → Wr17 w1 W q tree leaf mm l bs t L base p m B g A n c i j k A3 r c3 va → (∀ V, (Instr.slice 22 (.slice A3 r c3) none (some (.int .i64 (el15 l.length mm k : Int))) none).run Tryz.prog V = .ok (.slice A3 (el15 l.length mm k) c3) V) ∧ Ens W A3 (el15 l.length mm k) c3 ((l.drop (k * mm)).take (el15 l.length mm k)) ∧ ∃ A4, (∀ V, (Instr.slice 22 (.slice A3 r c3) (some (.int .i64 (el15 l.length mm k : Int))) none none).run Tryz.prog V = .ok (.slice A4 (r - el15 l.length mm k) (c3 - el15 l.length mm k)) V) ∧ Wr17 w1 W q tree leaf mm l bs t L base p m B g A n c i j (k + 1) A4 (r - el15 l.length mm k) (c3 - el15 l.length mm k) va) := fun W w1 i j k r A3 c3 va hr hW => by
    have he : el15 l.length mm k ≤ r := by rw [hr]; exact Nat.min_le_left _ _
    obtain ⟨a1, a2⟩ := cut_toE17 hW.rest he
    obtain ⟨A4, b1, b2, b3⟩ := cut_fromE17 hW.rest he
    rw [el17_drop rfl] at b2
    exact ⟨a1, a2, A4, b1, hW.cut b2 (Nat.sub_le _ _) b3⟩
  have W0 : Hid (∀ w1, Below w.heap.size w w1 → Wr17 w1 w1 q tree leaf mm l bs t L base p m B g A n c 0 0 0 A2 l.length c2 (.slice none 0 0) ∧ Fr2 w w1 (some g) (some p)) := fun w1 hb => by
    refine ⟨⟨h.later hb, by simpa using hE.below hb, fun h0 ad e => ⟨(hfar h0 ad e).1, (hfar h0 ad e).2, ?_⟩, by rw [upP17_zero]; exact World.ownsRow_nil _ _ _ _, ⟨rfl, rfl, rfl, Nat.le_refl _, fun _ _ _ _ => rfl⟩, Nat.lt_of_lt_of_le hplt hb.size⟩, Fr2.of_below hb _ _⟩
    have hsz := hb.size
    obtain ⟨b', off', hA', hlt, _⟩ := hE.row.lit (by rw [entC_length]; omega)
    rw [hA'] at e
    injection e with e
    rw [← e]
    show b' < _
    omega
  have HEL : Hid (∀ k, el15 l.length mm k ≤ mm ∧ el15 l.length mm k = min (l.length - k * mm) mm) := fun k => ⟨Nat.min_le_right _ _, rfl⟩
  have HSZ : Hid (∀ k, k < fil15 l.length mm → (siz15 l.length mm)[k]? = some ((el15 l.length mm k : Nat) : Int)) := fun k hk => by simp [siz15, hk]
  have HRS := Lib.hid (fun k => rest15_succ l.length mm k)
  have HNO : Hid (∀ k, k < fil15 l.length mm → el15 l.length mm k = 0 → l = []) := fun k hk he => el17_none hpos hk he
  have HHD : Hid (∀ k, 0 < el15 l.length mm k → ∃ r, (nodB17 tree leaf mm l k).keys = ((l.drop (k * mm)).headD (0, [], 0)).1 :: r) := fun k he => el17_head hpos he
  have hsl : (siz15 l.length mm).length = fil15 l.length mm := siz15_length _ _
  have HSL := Lib.hid hsl
  have HFEW := Lib.hid hfew
  clear h hE hfar hEB hF hB ht hsl hfil hfew hroom hplt hglt
  generalize fil15 l.length mm = F at *
  generalize l.length = N at *
  go_enter Tryz.func27, Tryz.ntmps27
  go_wp2_with (first
    | (go_at_call 48; (with_reducible refine (MX.out _).mono ?_); rintro e w' ⟨rfl, rfl⟩)
    | (go_at_call 47; (with_reducible refine (SZ.out).mono ?_); rintro e w1 ⟨As, cs, rfl, hI, hN, hb⟩; have HI := Lib.hid hI; have HN := Lib.hid hN; have HB1 := Lib.hid hb; have hW0 := W0.out w1 hb; have HW0 := Lib.hid hW0; have hsc := hI.cap; have hsm := hI.most; clear hI hN hb hW0))
  clear SZ W0
  go_loopw [3, 11, 12, 25] (fun v3 va vl i wr => ∃ (k : Nat) (A3 : Option Addr) (r c3 : Nat) (x : Int), k ≤ F ∧ i = .int .i64 k ∧ v3 = .slice A3 r c3 ∧ vl = .int .i64 x ∧ Hid (x = if k = 0 then 0 else bs.getD (t + k - 1) 0) ∧ Hid (r = N - k * mm) ∧ Hid (Wr17 w1 wr q tree leaf mm l bs t L base p m B g A n c k k k A3 r c3 va)) (fun _ _ _ i _ => F - (intOf i).toNat)
  case atStart => exact ⟨0, A2, N, c2, 0, by omega, rfl, rfl, rfl, rfl, by show N = _; omega, HW0.out.1⟩
  case round =>
    obtain ⟨k, A3, r, c3, x, hk, rfl, rfl, rfl, hx, hr, hW⟩ := hrel
    by_cases hlt : k < F
    · have hIw : Ints wr As F cs (siz15 N mm) := HI.out.fr17 (fun ad e => by have h1 := HN.out ad e; have h2 := HP.out; exact ⟨fun e => by injection e; omega, fun e => by injection e; omega⟩) hW.out.fr
      obtain ⟨bS, oS, hAs, _, hcS⟩ := hIw.row.lit (by rw [i64s_length, HSL.out]; omega)
      have hcs : wr.cell? ⟨bS, oS + k, none⟩ = some (.int .i64 ((el15 N mm k : Nat) : Int)) := hcS k _ (by rw [i64s, List.getElem?_map, HSZ.out k hlt]; rfl)
      obtain ⟨hc1, hcE, A4, hc2, hW4⟩ := CF.out wr w1 k k k r A3 c3 u11 hr.out hW.out
      have PTk := Lib.hid (PT.out wr A3 c3 k hcE)
      have LYk := Lib.hid (fun W Ak ck Av cv h1 h2 => LY.out W w1 k (k + 1) (el15 N mm k) A4 (r - el15 N mm k) (c3 - el15 N mm k) u11 Ak ck Av cv hlt h1 h2)
      have RTk := Lib.hid (fun W => RT.out W k hlt)
      have NOk := Lib.hid (HNO.out k hlt)
      have HDk := Lib.hid (HHD.out k)
      have hel := HEL.out k
      have hrs := HRS.out k
      have hr' : Hid (r - el15 N mm k = N - (k + 1) * mm) := by have := hr.out; show _ = _; rw [hrs]; omega
      have HW4 := Lib.hid hW4
      have hRb : r ≤ N := by have := hr.out; have h2 : N - k * mm ≤ N := Nat.sub_le _ _; omega
      subst hAs
      clear hIw hcS hW4 hcE HSZ CF PT LY RT HNO HHD HEL HRS hrs hr hW
      generalize el15 N mm k = sz at *
      obtain ⟨no, hno⟩ : ∃ no, bs.getD (t + k) 0 = no := ⟨_, rfl⟩
      rw [hno] at RTk LYk
      have HNO := Lib.hid hno
      clear hno
      have hsz18 : sz ≤ 18 := by omega
      clear hel
      by_cases hz : sz = 0
      · have hd : decide ((0 : Int) < (sz : Int)) = false := decide_eq_false (by omega)
        have hd2 : decide (0 < sz) = false := decide_eq_false (by omega)
        have HZ := Lib.hid hz
        clear hz
        go_wp2_with (first
          | (go_at_call 49; (with_reducible refine (PTk.out).mono ?_); rintro e w2 ⟨Ak, ck, Av, cv, rfl, hN2, hb2, hK2⟩; obtain ⟨W3, hW3⟩ : ∃ W3, w2.alloc (.cells #[.int .i64 tree, .bool leaf, .slice Ak sz ck, .slice Av sz cv] 76) = W3 := ⟨_, rfl⟩; have hb3 : Below w2.heap.size w2 W3 := (by rw [← hW3]; exact (Below.refl _ _).alloc (Nat.le_refl _) _); have hA3 : NodAt W3 w2.heap.size tree leaf (.slice Ak sz ck) (.slice Av sz cv) := (by rw [← hW3]; exact NodAt.new _ _ _ _ _); have HA3 := Lib.hid hA3; have HN3 := Lib.hid (hN2.out.below hb3); have HW3 := Lib.hid (HW4.out.later (hb2.out.trans (hb3.mono hb2.out.size))); obtain ⟨n0, n1, n2, n3⟩ := (And.intro hA3.c0 (And.intro hA3.c1 (And.intro hA3.c2 hA3.c3))); clear hA3 hb3)
          | (go_at_call 50; (with_reducible refine (LYk.out _ _ _ _ _ HW3.out HN3.out).mono ?_); rintro e w4 ⟨rfl, hW5, hf4⟩))
        have hl := NOk.out HZ.out
        go_roundw
        case rel => exact ⟨k + 1, A4, r - sz, c3 - sz, no, by omega, by go_num, rfl, rfl, by show no = _; rw [if_neg (by omega), ← HNO.out]; rfl, hr'.out, hW5.out.none_ hl _⟩
        case measure => simp [intOf]; omega
      · have hd : decide ((0 : Int) < (sz : Int)) = true := decide_eq_true (by omega)
        have hd2 : decide (0 < sz) = true := decide_eq_true (by omega)
        go_wp2_with (first
          | (go_at_call 49; (with_reducible refine (PTk.out).mono ?_); rintro e w2 ⟨Ak, ck, Av, cv, rfl, hN2, hb2, hK2⟩; obtain ⟨W3, hW3⟩ : ∃ W3, w2.alloc (.cells #[.int .i64 tree, .bool leaf, .slice Ak sz ck, .slice Av sz cv] 76) = W3 := ⟨_, rfl⟩; have hb3 : Below w2.heap.size w2 W3 := (by rw [← hW3]; exact (Below.refl _ _).alloc (Nat.le_refl _) _); have hA3 : NodAt W3 w2.heap.size tree leaf (.slice Ak sz ck) (.slice Av sz cv) := (by rw [← hW3]; exact NodAt.new _ _ _ _ _); have HA3 := Lib.hid hA3; have HN3 := Lib.hid (hN2.out.below hb3); have HW3 := Lib.hid (HW4.out.later (hb2.out.trans (hb3.mono hb2.out.size))); obtain ⟨n0, n1, n2, n3⟩ := (And.intro hA3.c0 (And.intro hA3.c1 (And.intro hA3.c2 hA3.c3))); clear hA3 hb3)
          | (go_at_call 50; (with_reducible refine (LYk.out _ _ _ _ _ HW3.out HN3.out).mono ?_); rintro e w4 ⟨rfl, hW5, hf4⟩))
        have hsz1 := HW4.out.fr.size
        have hsz2 := hb2.out.size
        have hpg := And.intro HW4.out.hp HW4.out.glt
        have hA4 : NodAt w4 w2.heap.size tree leaf (.slice Ak sz ck) (.slice Av sz cv) := (hf4.out.block _ (block_lt HA3.out) (fun e => by injection e; omega) (fun e => by injection e; omega)).trans HA3.out
        have hKI : Ints w4 Ak sz ck (nodB17 tree leaf mm l k).keys := HN3.out.keys.fr17 (fun ad e => by have := hK2.out ad e; exact ⟨fun e => by injection e; omega, fun e => by injection e; omega⟩) hf4.out
        obtain ⟨rr, hkk⟩ := HDk.out (by omega)
        rw [hkk] at hKI
        have hln : l ≠ [] := fun e => by
          have := hKI.len
          have h2 : (nodB17 tree leaf mm l k).keys = [] := by rw [e]; simp [nodB17]
          rw [h2] at hkk
          cases hkk
        have hone := upP17_one (m := mm) (bs := bs) (t := t) (k := k) hln rfl HNO.out
        generalize ((l.drop (k * mm)).headD (0, [], 0)).1 = key0 at *
        obtain ⟨bk, ok, hAk, _, hck⟩ := hKI.row.lit (by rw [i64s_length]; simp)
        have hc0 : w4.cell? ⟨bk, ok, none⟩ = some (.int .i64 key0) := by simpa using hck 0 _ rfl
        have m2 := hA4.c2
        subst hAk
        have hbk : wr.heap.size ≤ bk := hK2.out _ rfl
        have HOB : Hid (∀ j, u11.ownBlock = some j → j < wr.heap.size) := fun j e => by
          obtain ⟨_, cur, hc⟩ := own_apartS HW4.out.ab j e
          exact block_lt hc
        obtain ⟨y, hy⟩ : ∃ y : ByteArray, (⟨(encN 4 no.toNat).toArray⟩ : ByteArray) = y := ⟨_, rfl⟩
        rw [hy] at RTk
        have HOWN : Hid (∀ W, Below w4.heap.size w4 W → W.ownsRow w1.heap.size 57 3 u11 (upP17 mm l bs t k).length (entC (upP17 mm l bs t k)) ∧ w1.heap.size ≤ W.heap.size ∧ Wr17 w1 W q tree leaf mm l bs t L base p m B g A n c (k + 1) k (k + 1) A4 (r - sz) (c3 - sz) u11) := fun W hW => by
          have h9 := hW5.out.later hW
          exact ⟨h9.ab, h9.fr.size, h9⟩
        have HUP : Hid (∀ (W : World) (v : Value) (j : Nat), Hid (W.ownsRow w1.heap.size 57 3 v (j + 1) (entC (upP17 mm l bs t k) ++ [.int .i64 key0, .string y, .int .i64 0])) → j = (upP17 mm l bs t k).length → W.ownsRow w1.heap.size 57 3 v (upP17 mm l bs t (k + 1)).length (entC (upP17 mm l bs t (k + 1)))) := fun W v j h hj => by
          rw [hone, entC_snoc, List.length_append, ← hj]
          have e : entC [(key0, encN 4 no.toNat, (0 : Int))] = [.int .i64 key0, .string y, .int .i64 0] := by rw [← hy]; rfl
          rw [e]
          exact h.out
        have hup := upP17_le mm l bs t k
        generalize (upP17 mm l bs t k).length = la at *
        clear hA4 hKI hck hkk hln hone hy HA3 HN3 HW3 hN2 hK2 hf4 PTk LYk NOk HDk n0 n1 n2 n3
        have h0z : 0 < sz := by omega
        have hdd : Below w4.heap.size w4 w4.drew := (Below.refl _ _).drew
        have md : w4.drew.cell? ⟨w2.heap.size, 2, none⟩ = some (.slice (some ⟨bk, ok, none⟩) sz ck) ∧ w4.drew.cell? ⟨bk, ok, none⟩ = some (.int .i64 key0) := ⟨(hdd.cell (p := ⟨w2.heap.size, 2, none⟩) (cell_lt m2)).trans m2, (hdd.cell (p := ⟨bk, ok, none⟩) (cell_lt hc0)).trans hc0⟩
        go_region_held3 (fun W => W.cell? ⟨w2.heap.size, 2, none⟩ = some (.slice (some ⟨bk, ok, none⟩) sz ck) ∧ W.cell? ⟨bk, ok, none⟩ = some (.int .i64 key0))
          (first | assumption | exact ⟨m2, hc0⟩ | go_keep)
          (first
          | (go_at_call 51; (with_reducible refine (RTk.out _).mono ?_); rintro e w5 ⟨rfl, hb5⟩; have m5 : w5.cell? ⟨w2.heap.size, 2, none⟩ = some (.slice (some ⟨bk, ok, none⟩) sz ck) ∧ w5.cell? ⟨bk, ok, none⟩ = some (.int .i64 key0) := ⟨(hb5.cell (p := ⟨w2.heap.size, 2, none⟩) (cell_lt md.1)).trans md.1, (hb5.cell (p := ⟨bk, ok, none⟩) (cell_lt md.2)).trans md.2⟩; have hb5' : Below w4.heap.size w4 w5 := hdd.trans (hb5.mono hdd.size); have HO6 := Lib.hid (HOWN.out (w5.alloc (.cells #[.int .i64 key0, .string y, .int .i64 0] 57)) (hb5'.alloc hb5'.size _)); have HO6a : Hid _ := HO6.out.1; have HO6b := HO6.out.2.1; clear hb5 hb5')
          | (refine step_append_rowG _ rfl (.tmp 46) (.tmp 54) 22 rfl w1.heap.size 57 3 (.agg #[.int .i64 0, .string ByteArray.empty, .int .i64 0]) 32 Tryz.underlying22 info_ent17 rfl (by omega) u11 la (entC (upP17 mm l bs t k)) rfl HO6a HO6b ⟨w5.heap.size, 0, none⟩ [.int .i64 key0, .string y, .int .i64 0] 1 1 rfl rfl (Row.of_block (t := 57) (fr := (0, 0)) (heap_alloc_new w5 _)) (by simp [Value.oneCell']) (by omega) (by omega) ?_; intro v6 w6 hown6 hg6; have HW7 := Lib.hid (HO6.out.2.2.grew (j' := k + 1) (HUP.out w6 v6 la hown6 rfl) hg6.out); have hba : Below w5.heap.size w5 (w5.alloc (.cells #[.int .i64 key0, .string y, .int .i64 0] 57)) := (Below.refl _ _).alloc (Nat.le_refl _) _; have m6 : w6.cell? ⟨w2.heap.size, 2, none⟩ = some (.slice (some ⟨bk, ok, none⟩) sz ck) ∧ w6.cell? ⟨bk, ok, none⟩ = some (.int .i64 key0) := ⟨cell_kept17 ((hba.cell (p := ⟨w2.heap.size, 2, none⟩) (cell_lt m5.1)).trans m5.1) hg6.out (fun j e => by have := HOB.out j e; show j ≠ w2.heap.size; omega), cell_kept17 ((hba.cell (p := ⟨bk, ok, none⟩) (cell_lt m5.2)).trans m5.2) hg6.out (fun j e => by have := HOB.out j e; show j ≠ bk; omega)⟩))
        clear HO6a HO6b m5 md m2 hc0 hdd
        go_wp2
        go_roundw
        case rel => exact ⟨k + 1, A4, r - sz, c3 - sz, no, by omega, by go_num, rfl, rfl, by show no = _; rw [if_neg (by omega), ← HNO.out]; rfl, hr'.out, HW7.out⟩
        case measure => simp [intOf]; omega
    · obtain rfl : k = F := by omega
      have hx2 : x = bs.getD (t + k - 1) 0 := by have := hx.out; rwa [if_neg (by omega)] at this
      go_wp2
      go_ret3
      obtain ⟨A5, c5, rfl, hE5⟩ := Ens.of_own hW.out.ab
      have hf := hW.out.fr
      exact ⟨A5, c5, by rw [hx2]; rfl, hE5, (Newer.of_own hW.out.ab).mono HB1.out.size, hW.out.ai, (Fr2.of_below HB1.out _ _).trans hf⟩
end Go.Proofs.YtnjlganofjkpfaaGreatDoor

/-
  Layer 17: Tree's level, Tree.
-/
namespace Go.Proofs.YtnjlganofjkpfaaGreatDoor
open Go.RowKit
set_option linter.unusedVariables false
set_option linter.unusedSimpArgs false

/-- one variable in a block of its own -/
def Bx17 (w : World) (b : Nat) (T : TypeId) (v : Value) : Prop := w.heap[b]? = some (Obj.cells #[v] T (0, 0))
section
variable {w w' : World} {b : Nat} {T : TypeId} {v : Value}
theorem Bx17.cell (h : Bx17 w b T v) : w.cell? ⟨b, 0, none⟩ = some v := by rw [cell_of_row w b 0 _ _ _ h]; rfl
theorem Bx17.free (h : Bx17 w b T v) : w.frozen? ⟨b, 0, none⟩ = false := frozen_of_row w b 0 _ _ h
theorem Bx17.kept (h : Bx17 w b T v) (hk : w'.heap[b]? = w.heap[b]?) : Bx17 w' b T v := hk.trans h
theorem Bx17.store (h : Bx17 w b T v) (v' : Value) : Bx17 (w.setCell ⟨b, 0, none⟩ v') b T v' := by
  unfold Bx17
  rw [heap_setCell_same w b 0 _ _ _ h]
  rfl
end
/-- Tree's variables, while its levels are written -/
structure Tr17 (w W : World) (br : Nat) (tree : Int) (bs : List Int) (base p m B g : Nat) (A : Option Addr) (n c t : Nat) (L : List UInt8) (A2 : Option Addr) (n2 c2 : Nat) (l0 : List Ent17) (x : Int) : Prop where
  ai : AImg W base p m B g A n c bs t L
  ens : Ens W A2 n2 c2 l0
  far : 0 < n2 → ∀ ad, A2 = some ad → ad.block ≠ g ∧ ad.block ≠ p ∧ (ad.block < w.heap.size ∨ br + 2 ≤ ad.block)
  fr : Fr2 w W (some g) (some p)
  hp : p < w.heap.size
  lo : w.heap.size + 3 ≤ br
  sz : br + 2 ≤ W.heap.size
  ba : Bx17 W w.heap.size 25 (.pointer (some ⟨p, 0, none⟩))
  bt : Bx17 W (w.heap.size + 1) 3 (.int .i64 tree)
  bl : Bx17 W (w.heap.size + 2) 22 (.slice A2 n2 c2)
  br_ : Bx17 W br 3 (.int .i64 x)
  bf : Bx17 W (br + 1) 37 .nilIface
section
variable {w W W' : World} {br : Nat} {tree : Int} {bs : List Int} {base p m B g : Nat} {A : Option Addr} {n c t : Nat} {L : List UInt8} {A2 : Option Addr} {n2 c2 : Nat} {l0 : List Ent17} {x : Int}
theorem Tr17.glt (h : Tr17 w W br tree bs base p m B g A n c t L A2 n2 c2 l0 x) : g < w.heap.size := by
  have := h.hp
  have := h.ai.glt
  have := h.ai.alc.bp
  omega
theorem Tr17.later (h : Tr17 w W br tree bs base p m B g A n c t L A2 n2 c2 l0 x) (hb : Below W.heap.size W W') : Tr17 w W' br tree bs base p m B g A n c t L A2 n2 c2 l0 x := by
  have hs := h.sz
  have hlo := h.lo
  exact ⟨h.ai.later hb, h.ens.below hb, h.far, h.fr.trans (Fr2.of_below hb _ _), h.hp, h.lo, Nat.le_trans h.sz hb.size, h.ba.kept (hb.block _ (by omega)), h.bt.kept (hb.block _ (by omega)), h.bl.kept (hb.block _ (by omega)), h.br_.kept (hb.block _ (by omega)), h.bf.kept (hb.block _ (by omega))⟩
/-- a level has been written, and is stored -/
theorem Tr17.wrote (h : Tr17 w W br tree bs base p m B g A n c t L A2 n2 c2 l0 x) {t' : Nat} {L' : List UInt8} {A3 : Option Addr} {n3 c3 : Nat} {l3 : List Ent17} {x3 : Int} (ha : AImg W' base p m B g A n c bs t' L') (hE : Ens W' A3 n3 c3 l3) (hn : Newer W.heap.size A3) (hf : Fr2 W W' (some g) (some p)) :
    Tr17 w (((W'.setCell ⟨w.heap.size + 2, 0, none⟩ (.slice A3 n3 c3)).setCell ⟨br, 0, none⟩ (.int .i64 x3)).setCell ⟨(br + 1), 0, none⟩ .nilIface) br tree bs base p m B g A n c t' L' A3 n3 c3 l3 x3 := by
  have hg := h.glt
  have hp := h.hp
  have hs := h.sz
  have hlo := h.lo
  have hs2 := hf.size
  have keep : ∀ k, k ≠ w.heap.size + 2 → k ≠ br → k ≠ (br + 1) → (((W'.setCell ⟨w.heap.size + 2, 0, none⟩ (.slice A3 n3 c3)).setCell ⟨br, 0, none⟩ (.int .i64 x3)).setCell ⟨(br + 1), 0, none⟩ .nilIface).heap[k]? = W'.heap[k]? := fun k h2 h3 h4 => by
    rw [heap_setCell_other _ _ k _ h4, heap_setCell_other _ _ k _ h3, heap_setCell_other _ _ k _ h2]
  have hb9 : Below w.heap.size W' (((W'.setCell ⟨w.heap.size + 2, 0, none⟩ (.slice A3 n3 c3)).setCell ⟨br, 0, none⟩ (.int .i64 x3)).setCell ⟨(br + 1), 0, none⟩ .nilIface) := (((Below.refl _ _).setCell (p := ⟨w.heap.size + 2, 0, none⟩) (by show _ ≤ w.heap.size + 2; omega) _).setCell (p := ⟨br, 0, none⟩) (by show _ ≤ br; omega) _).setCell (p := ⟨(br + 1), 0, none⟩) (by show _ ≤ (br + 1); omega) _
  have h2 : Bx17 W' (w.heap.size + 2) _ _ := h.bl.kept (hf.block _ (by omega) (fun e => by injection e; omega) (fun e => by injection e; omega))
  have h3 : Bx17 W' (br) _ _ := h.br_.kept (hf.block _ (by omega) (fun e => by injection e; omega) (fun e => by injection e; omega))
  have h4 : Bx17 W' (br + 1) _ _ := h.bf.kept (hf.block _ (by omega) (fun e => by injection e; omega) (fun e => by injection e; omega))
  refine ⟨ha.keep17 hb9 hp, ⟨hE.len, hE.cap, hE.most, hE.row.newer hn fun k hk => keep k (by omega) (by omega) (by omega)⟩, fun _ ad e => ?_, ?_, hp, hlo, by simp [World.setCell]; omega, ?_, ?_, ?_, ?_, ?_⟩
  · have := hn ad e
    exact ⟨by omega, by omega, by omega⟩
  · have hf2 := h.fr.trans hf
    exact ⟨hb9.os.trans hf2.os, hb9.tape.trans hf2.tape, hb9.output.trans hf2.output, Nat.le_trans hf2.size hb9.size, fun k hk h1 h2 => (hb9.block k hk).trans (hf2.block k hk h1 h2)⟩
  · exact (h.ba.kept (hf.block _ (by omega) (fun e => by injection e; omega) (fun e => by injection e; omega))).kept (keep _ (by omega) (by omega) (by omega))
  · exact (h.bt.kept (hf.block _ (by omega) (fun e => by injection e; omega) (fun e => by injection e; omega))).kept (keep _ (by omega) (by omega) (by omega))
  · refine (h2.store _).kept ?_
    rw [heap_setCell_other _ _ _ _ (by show w.heap.size + 2 ≠ (br + 1); omega), heap_setCell_other _ _ _ _ (by show w.heap.size + 2 ≠ br; omega)]
  · have h3' : Bx17 (W'.setCell ⟨w.heap.size + 2, 0, none⟩ (.slice A3 n3 c3)) (br) _ _ := h3.kept (heap_setCell_other _ _ _ _ (by show br ≠ w.heap.size + 2; omega))
    exact (h3'.store _).kept (heap_setCell_other _ _ _ _ (by show br ≠ (br + 1); omega))
  · have h4' : Bx17 ((W'.setCell ⟨w.heap.size + 2, 0, none⟩ (.slice A3 n3 c3)).setCell ⟨br, 0, none⟩ (.int .i64 x3)) (br + 1) _ _ := h4.kept (by rw [heap_setCell_other _ _ _ _ (by show (br + 1) ≠ br; omega), heap_setCell_other _ _ _ _ (by show (br + 1) ≠ w.heap.size + 2; omega)])
    exact h4'.store _

set_option maxRecDepth 100000 in
set_option maxHeartbeats 1600000 in
/-- a level -/
theorem level_any17 {q : Nat} {leaf : Bool} {mm : Nat} (h : Tr17 w W br tree bs base p m B g A n c t L A2 n2 c2 l0 x) (hEB : EntB l0) (hF : LvF17 q tree bs leaf mm l0 t L) (hB : Bs17 q bs) (ht : i64b tree) :
    Calls Tryz.prog 26 #[.bool leaf, .pointer (some ⟨(br + 1), 0, none⟩), .pointer (some ⟨w.heap.size, 0, none⟩), .pointer (some ⟨w.heap.size + 1, 0, none⟩), .pointer (some ⟨w.heap.size + 2, 0, none⟩), .pointer (some ⟨br, 0, none⟩)] W fun e w' => e = .returned (.tuple #[]) ∧ ∃ A3 c3, Tr17 w w' br tree bs base p m B g A n c (t + fil15 l0.length mm) (levW17 q tree leaf mm l0 bs t (fil15 l0.length mm) L) A3 (upP17 mm l0 bs t (fil15 l0.length mm)).length c3 (upP17 mm l0 bs t (fil15 l0.length mm)) (bs.getD (t + fil15 l0.length mm - 1) 0) := by
  have WR : Hid (Calls Tryz.prog 27 #[.pointer (some ⟨p, 0, none⟩), .int .i64 tree, .bool leaf, .slice A2 n2 c2] W fun e w' => ∃ A3 c3, e = .returned (.tuple #[.slice A3 (upP17 mm l0 bs t (fil15 l0.length mm)).length c3, .int .i64 (bs.getD (t + fil15 l0.length mm - 1) 0), .nilIface]) ∧ Hid (Tr17 w (((w'.setCell ⟨w.heap.size + 2, 0, none⟩ (.slice A3 (upP17 mm l0 bs t (fil15 l0.length mm)).length c3)).setCell ⟨br, 0, none⟩ (.int .i64 (bs.getD (t + fil15 l0.length mm - 1) 0))).setCell ⟨(br + 1), 0, none⟩ .nilIface) br tree bs base p m B g A n c (t + fil15 l0.length mm) (levW17 q tree leaf mm l0 bs t (fil15 l0.length mm) L) A3 (upP17 mm l0 bs t (fil15 l0.length mm)).length c3 (upP17 mm l0 bs t (fil15 l0.length mm)) (bs.getD (t + fil15 l0.length mm - 1) 0)) ∧ Bx17 w' (w.heap.size + 2) 22 (.slice A2 n2 c2) ∧ Bx17 w' (br) 3 (.int .i64 x) ∧ Bx17 w' (br + 1) 37 .nilIface) := by
    refine (write_any17 h.ai h.ens (fun h0 ad e => ⟨(h.far h0 ad e).1, (h.far h0 ad e).2.1⟩) hEB hF hB ht).mono ?_
    rintro e w' ⟨A3, c3, h1, h2, h3, h4, h5⟩
    have hg := h.glt
    have hp := h.hp
    have hs := h.sz
    have hlo := h.lo
    exact ⟨A3, c3, h1, h.wrote h4 h2 h3 h5, h.bl.kept (h5.block _ (by omega) (fun e => by injection e; omega) (fun e => by injection e; omega)), h.br_.kept (h5.block _ (by omega) (fun e => by injection e; omega) (fun e => by injection e; omega)), h.bf.kept (h5.block _ (by omega) (fun e => by injection e; omega) (fun e => by injection e; omega))⟩
  have ca := h.ba.cell
  have ct := h.bt.cell
  have cl := h.bl.cell
  have cf := h.bf.cell
  have hlo := h.lo
  have k1 : ¬ br = w.heap.size + 2 := by omega
  have k2 : ¬ br + 1 = w.heap.size + 2 := by omega
  have k3 : ¬ br = w.heap.size + 1 := by omega
  have k4 : ¬ w.heap.size + 2 = br := by omega
  have k5 : ¬ w.heap.size + 2 = br + 1 := by omega
  have k6 : ¬ w.heap.size + 1 = br := by omega
  clear h hEB hF hB ht
  generalize bs.getD (t + fil15 l0.length mm - 1) 0 = no at *
  generalize (upP17 mm l0 bs t (fil15 l0.length mm)).length = nu at *
  go_enter Tryz.func26, Tryz.ntmps26
  go_wp2_with (go_at_call 27; (with_reducible refine (WR.out).mono ?_); rintro e w1 ⟨A3, c3, rfl, hT, h2, h3, h4⟩; have d2 := h2.cell; have d3 := h3.cell; have d4 := h4.cell; have f2 := h2.free; have f3 := h3.free; have f4 := h4.free)
  go_end0
  exact ⟨rfl, A3, c3, hT.out⟩
end
end Go.Proofs.YtnjlganofjkpfaaGreatDoor

/-
  Layer 17: Tree.
-/
namespace Go.Proofs.YtnjlganofjkpfaaGreatDoor
open Go.RowKit
set_option linter.unusedVariables false
set_option linter.unusedSimpArgs false

/-- the error, as an interface value -/
def errV17 (x : Int) : Value := if x = 0 then .nilIface else .iface 40 (.int .i64 x)

/-- Tree's parameters in variables of their own -/
structure St17 (w W : World) (tree : Int) (p : Nat) (A2 : Option Addr) (n2 c2 : Nat) : Prop where
  bel : Below w.heap.size w W
  sz : w.heap.size + 3 ≤ W.heap.size
  ba : Bx17 W w.heap.size 25 (.pointer (some ⟨p, 0, none⟩))
  bt : Bx17 W (w.heap.size + 1) 3 (.int .i64 tree)
  bl : Bx17 W (w.heap.size + 2) 22 (.slice A2 n2 c2)
section
variable {w W W' : World} {tree : Int} {p : Nat} {A2 : Option Addr} {n2 c2 : Nat}
theorem St17.later (h : St17 w W tree p A2 n2 c2) (hb : Below W.heap.size W W') : St17 w W' tree p A2 n2 c2 := by
  have hs := h.sz
  exact ⟨h.bel.trans (hb.mono h.bel.size), Nat.le_trans h.sz hb.size, h.ba.kept (hb.block _ (by omega)), h.bt.kept (hb.block _ (by omega)), h.bl.kept (hb.block _ (by omega))⟩
theorem St17.cs (h : St17 w W tree p A2 n2 c2) : W.cell? ⟨w.heap.size, 0, none⟩ = some (.pointer (some ⟨p, 0, none⟩)) ∧ W.cell? ⟨w.heap.size + 1, 0, none⟩ = some (.int .i64 tree) ∧ W.cell? ⟨w.heap.size + 2, 0, none⟩ = some (.slice A2 n2 c2) := ⟨h.ba.cell, h.bt.cell, h.bl.cell⟩
theorem St17.start (w : World) (tree : Int) (p : Nat) (A2 : Option Addr) (n2 c2 : Nat) : St17 w (((w.alloc (.cells #[.pointer (some ⟨p, 0, none⟩)] 25)).alloc (.cells #[.int .i64 tree] 3)).alloc (.cells #[.slice A2 n2 c2] 22)) tree p A2 n2 c2 := by
  have b1 : Below w.heap.size w (w.alloc (.cells #[.pointer (some ⟨p, 0, none⟩)] 25)) := (Below.refl _ _).alloc (Nat.le_refl _) _
  have h1 : Bx17 (w.alloc (.cells #[.pointer (some ⟨p, 0, none⟩)] 25)) w.heap.size 25 (.pointer (some ⟨p, 0, none⟩)) := heap_alloc_new w _
  obtain ⟨w1, e1⟩ : ∃ w1, w.alloc (.cells #[.pointer (some ⟨p, 0, none⟩)] 25) = w1 := ⟨_, rfl⟩
  have s1 : w1.heap.size = w.heap.size + 1 := by rw [← e1]; simp
  rw [e1] at b1 h1 ⊢
  have b2 : Below w1.heap.size w1 (w1.alloc (.cells #[.int .i64 tree] 3)) := (Below.refl _ _).alloc (Nat.le_refl _) _
  have h2 : Bx17 (w1.alloc (.cells #[.int .i64 tree] 3)) (w.heap.size + 1) 3 (.int .i64 tree) := by rw [← s1]; exact heap_alloc_new w1 _
  obtain ⟨w2, e2⟩ : ∃ w2, w1.alloc (.cells #[.int .i64 tree] 3) = w2 := ⟨_, rfl⟩
  have s2 : w2.heap.size = w.heap.size + 2 := by rw [← e2]; simp; omega
  rw [e2] at b2 h2 ⊢
  have b3 : Below w2.heap.size w2 (w2.alloc (.cells #[.slice A2 n2 c2] 22)) := (Below.refl _ _).alloc (Nat.le_refl _) _
  have h3 : Bx17 (w2.alloc (.cells #[.slice A2 n2 c2] 22)) (w.heap.size + 2) 22 (.slice A2 n2 c2) := by rw [← s2]; exact heap_alloc_new w2 _
  have h1' := h1.kept (b2.block _ (block_lt h1))
  exact ⟨(b1.trans (b2.mono (by omega))).trans (b3.mono (by omega)), by simp; omega, h1'.kept (b3.block _ (block_lt h1')), h2.kept (b3.block _ (block_lt h2)), h3⟩
end

section
variable {w : World} {q : Nat} {tree : Int} {l : List Ent17} {bs : List Int} {t : Nat} {L : List UInt8} {base p m B g : Nat} {A : Option Addr} {n c : Nat} {A2 : Option Addr} {n2 c2 : Nat}
set_option maxRecDepth 100000 in
set_option maxHeartbeats 1600000 in
/-- the entries can't be a tree's -/
theorem Tree_bad17 (h : AImg w base p m B g A n c bs t L) (hE : Ens w A2 n2 c2 l) (hEB : EntB l) (hr : rightB17 tree l = false) :
    Calls Tryz.prog 10 #[.pointer (some ⟨p, 0, none⟩), .int .i64 tree, .slice A2 n2 c2] w fun e w' => e = .returned (.tuple #[.int .i64 0, .iface 40 (.int .i64 1)]) ∧ Below w.heap.size w w' := by
  have S0 := St17.start w tree p A2 n2 c2
  obtain ⟨w3, e3⟩ : ∃ w3, ((w.alloc (.cells #[.pointer (some ⟨p, 0, none⟩)] 25)).alloc (.cells #[.int .i64 tree] 3)).alloc (.cells #[.slice A2 n2 c2] 22) = w3 := ⟨_, rfl⟩
  rw [e3] at S0
  have IM := Lib.hid (Image_yes16 (h.later S0.bel).alc)
  have RT : Hid (Calls Tryz.prog 25 #[.int .i64 tree, .slice A2 n2 c2] w3 fun e w' => e = .returned (.bool false) ∧ Below w.heap.size w w') := (right_any17 tree w3 (hE.below S0.bel) hEB).mono fun e w' h => ⟨by rw [h.1, hr], S0.bel.trans (h.2.mono S0.bel.size)⟩
  obtain ⟨c0, c1, c2_⟩ := S0.cs
  clear h hE hEB hr S0
  go_enter Tryz.func10, Tryz.ntmps10
  go_wp2_with (first
    | (go_at_call 16; (with_reducible refine (IM.out).mono ?_); rintro e w1 ⟨rfl, rfl⟩)
    | (go_at_call 25; (with_reducible refine (RT.out).mono ?_); rintro e w2 ⟨rfl, hb2⟩))
  go_ret2
  exact ⟨rfl, hb2⟩

set_option maxRecDepth 100000 in
set_option maxHeartbeats 1600000 in
/-- there is no room -/
theorem Tree_space17 (h : AImg w base p m B g A n c bs t L) (hE : Ens w A2 n2 c2 l) (hEB : EntB l) (hr : rightB17 tree l = true) (hs : ((bs.length - t : Nat) : Int) < (lev15 l.length (capN (widN tree true))).sum) :
    Calls Tryz.prog 10 #[.pointer (some ⟨p, 0, none⟩), .int .i64 tree, .slice A2 n2 c2] w fun e w' => e = .returned (.tuple #[.int .i64 0, .iface 40 (.int .i64 14)]) ∧ Below w.heap.size w w' := by
  obtain rfl : n2 = l.length := hE.len.symm
  have S0 := St17.start w tree p A2 l.length c2
  obtain ⟨w3, e3⟩ : ∃ w3, ((w.alloc (.cells #[.pointer (some ⟨p, 0, none⟩)] 25)).alloc (.cells #[.int .i64 tree] 3)).alloc (.cells #[.slice A2 l.length c2] 22) = w3 := ⟨_, rfl⟩
  rw [e3] at S0
  have IM := Lib.hid (Image_yes16 (h.later S0.bel).alc)
  have RT : Hid (Calls Tryz.prog 25 #[.int .i64 tree, .slice A2 l.length c2] w3 fun e w' => e = .returned (.bool true) ∧ St17 w w' tree p A2 l.length c2) := (right_any17 tree w3 (hE.below S0.bel) hEB).mono fun e w' h => ⟨by rw [h.1, hr], S0.later h.2⟩
  have LF : Hid (∀ W, St17 w W tree p A2 l.length c2 → Calls Tryz.prog 21 #[.pointer (some ⟨p, 0, none⟩)] W fun e w' => e = .returned (.int .i64 ((bs.length - t : Nat) : Int)) ∧ St17 w w' tree p A2 l.length c2) := fun W hW => (h.later hW.bel).left17.mono fun e w' h => ⟨h.1, hW.later h.2⟩
  have ND : Hid (∀ W, St17 w W tree p A2 l.length c2 → Calls Tryz.prog 19 #[.int .i64 tree, .int .i64 (l.length : Int)] W fun e w' => e = .returned (.int .i64 (lev15 l.length (capN (widN tree true))).sum) ∧ St17 w w' tree p A2 l.length c2) := fun W hW => (Nodes_any15 tree (l.length : Int) (capN (widN tree true)) rfl W).mono fun e w' h => ⟨by rw [h.1, levL15_right hr], hW.later h.2⟩
  obtain ⟨c0, c1, c2_⟩ := S0.cs
  have hcap := hE.cap
  have hmost := hE.most
  clear h hE hEB hr S0
  generalize (lev15 l.length (capN (widN tree true))).sum = need at *
  generalize bs.length - t = lf at *
  generalize l.length = N at *
  go_enter Tryz.func10, Tryz.ntmps10
  go_wp2_with (first
    | (go_at_call 16; (with_reducible refine (IM.out).mono ?_); rintro e w1 ⟨rfl, rfl⟩)
    | (go_at_call 25; (with_reducible refine (RT.out).mono ?_); rintro e w2 ⟨rfl, hS2⟩; obtain ⟨d0, d1, d2⟩ := hS2.cs))
  have hS3 := hS2.later (Below.refl w2.heap.size w2).drew
  have dd := hS3.cs
  go_region_held3 (fun W => W.cell? ⟨w.heap.size, 0, none⟩ = some (.pointer (some ⟨p, 0, none⟩)) ∧ W.cell? ⟨w.heap.size + 1, 0, none⟩ = some (.int .i64 tree) ∧ W.cell? ⟨w.heap.size + 2, 0, none⟩ = some (.slice A2 N c2))
    (first | assumption | exact ⟨d0, d1, d2⟩ | go_keep)
    (first
    | (go_at_call 21; (with_reducible refine (LF.out _ (by assumption)).mono ?_); rintro e w4 ⟨rfl, hS4⟩; have f4 := hS4.cs)
    | (go_at_call 19; (with_reducible refine (ND.out _ hS4).mono ?_); rintro e w5 ⟨rfl, hS5⟩; have f5 := hS5.cs))
  go_wp2
  go_ret2
  exact ⟨rfl, hS5.bel⟩
end
end Go.Proofs.YtnjlganofjkpfaaGreatDoor

/-
  Layer 17: Tree, where there is a tree and room.
-/
namespace Go.Proofs.YtnjlganofjkpfaaGreatDoor
open Go.RowKit
set_option linter.unusedVariables false
set_option linter.unusedSimpArgs false

section
variable {w : World} {q : Nat} {tree : Int} {l : List Ent17} {bs : List Int} {t : Nat} {L : List UInt8} {base p m B g : Nat} {A : Option Addr} {n c : Nat} {A2 : Option Addr} {n2 c2 : Nat}
theorem St17.made {W : World} (hS : St17 w W tree p A2 n2 c2) (h : AImg w base p m B g A n c bs t L) (hE : Ens w A2 n2 c2 l) (hfar : 0 < n2 → ∀ ad, A2 = some ad → ad.block ≠ g ∧ ad.block ≠ p) :
    Tr17 w ((W.alloc (.cells #[.int .i64 0] 3)).alloc (.cells #[.nilIface] 37)) W.heap.size tree bs base p m B g A n c t L A2 n2 c2 l 0 := by
  have b1 : Below W.heap.size W (W.alloc (.cells #[.int .i64 0] 3)) := (Below.refl _ _).alloc (Nat.le_refl _) _
  have h1 : Bx17 (W.alloc (.cells #[.int .i64 0] 3)) W.heap.size 3 (.int .i64 0) := heap_alloc_new W _
  obtain ⟨w1, e1⟩ : ∃ w1, W.alloc (.cells #[.int .i64 0] 3) = w1 := ⟨_, rfl⟩
  have s1 : w1.heap.size = W.heap.size + 1 := by rw [← e1]; simp
  rw [e1] at b1 h1 ⊢
  have b2 : Below w1.heap.size w1 (w1.alloc (.cells #[.nilIface] 37)) := (Below.refl _ _).alloc (Nat.le_refl _) _
  have h2 : Bx17 (w1.alloc (.cells #[.nilIface] 37)) (W.heap.size + 1) 37 .nilIface := by rw [← s1]; exact heap_alloc_new w1 _
  have hS2 := (hS.later b1).later b2
  refine ⟨h.later hS2.bel, hE.below hS2.bel, fun h0 ad e => ⟨(hfar h0 ad e).1, (hfar h0 ad e).2, .inl ?_⟩, Fr2.of_below hS2.bel _ _, h.alc.plt, hS.sz, by simp; omega, hS2.ba, hS2.bt, hS2.bl, h1.kept (b2.block _ (block_lt h1)), h2⟩
  have hl := hE.len
  obtain ⟨b', off', hA', hlt, _⟩ := hE.row.lit (by rw [entC_length]; omega)
  rw [hA'] at e
  injection e with e
  rw [← e]
  exact hlt

/-- a round of Tree's loop -/
structure Rd17 (w W : World) (br q : Nat) (tree : Int) (mm : Nat) (bs : List Int) (l : List Ent17) (t : Nat) (L : List UInt8) (base p m B g : Nat) (A : Option Addr) (n c k : Nat) (li l0 : List Ent17) (tk : Nat) (Lk : List UInt8) (A3 : Option Addr) (n3 c3 : Nat) (x : Int) : Prop where
  lv : Lvl17 q tree mm bs l t L k li tk Lk
  rt : 1 ≤ k → x = bs.getD (tk - 1) 0
  kv : l0.map kv17 = li.map kv17 ∨ (li.length = 1 ∧ 1 ≤ k)
  eb : EntB l0
  tr : Tr17 w W br tree bs base p m B g A n c tk Lk A3 n3 c3 l0 x
theorem Rd17.step {mm k tk br : Nat} {W : World} {li l0 : List Ent17} {Lk : List UInt8} {A3 : Option Addr} {n3 c3 : Nat} {x : Int} (h : Rd17 w W br q tree mm bs l t L base p m B g A n c k li l0 tk Lk A3 n3 c3 x) (hR : R17 tree mm l) (hB : Bs17 q bs) (hL : L.length = q * 256) (hf : (t : Int) + (lev15 l.length mm).sum ≤ (bs.length : Int)) (ht : i64b tree) (hk : k < (lev15 l.length mm).length) :
    Calls Tryz.prog 26 #[.bool ((k : Int) == 0), .pointer (some ⟨(br + 1), 0, none⟩), .pointer (some ⟨w.heap.size, 0, none⟩), .pointer (some ⟨w.heap.size + 1, 0, none⟩), .pointer (some ⟨w.heap.size + 2, 0, none⟩), .pointer (some ⟨br, 0, none⟩)] W fun e w' => e = .returned (.tuple #[]) ∧ ∃ li l0 tk Lk A3 n3 c3 x, Rd17 w w' br q tree mm bs l t L base p m B g A n c (k + 1) li l0 tk Lk A3 n3 c3 x := by
  obtain ⟨hF, _, hN⟩ := h.lv.step hR hB hL hf hk
  have hkv : l0.map kv17 = li.map kv17 := by
    rcases h.kv with e | ⟨e1, e2⟩
    · exact e
    · have := (h.lv.one e2).1 e1
      omega
  have hlf : ((k : Int) == 0) = decide (k = 0) := by
    by_cases e : k = 0
    · subst e; rfl
    · rw [decide_eq_false e]
      simp
      omega
  rw [hlf]
  have hlen := kv17_length hkv
  refine (level_any17 h.tr h.eb (hF.kv hkv) hB ht).mono ?_
  rintro e w' ⟨h1, A4, c4, h2⟩
  rw [hlen, levW17_kv hkv] at h2
  refine ⟨h1, _, _, _, _, A4, _, c4, _, ⟨hN, fun _ => rfl, ?_, h.eb.up17 _ _ _ _, h2⟩⟩
  by_cases h0 : l0 = []
  · right
    have : li.length = 0 := by rw [← hlen, h0]; rfl
    refine ⟨?_, by omega⟩
    rw [upL17_length, this]
    simp [fil15]
  · left
    rw [upP17_kv h0, upL17_kv hkv]

set_option maxRecDepth 100000 in
set_option maxHeartbeats 3200000 in
theorem Tree_good17 (h : AImg w base p m B g A n c bs t L) (hE : Ens w A2 n2 c2 l) (hfar : 0 < n2 → ∀ ad, A2 = some ad → ad.block ≠ g ∧ ad.block ≠ p) (hEB : EntB l) (hB : Bs17 q bs) (hL : L.length = q * 256) (ht : i64b tree) (hr : rightB17 tree l = true) (hs : (lev15 l.length (capN (widN tree true))).sum ≤ ((bs.length - t : Nat) : Int)) :
    Calls Tryz.prog 10 #[.pointer (some ⟨p, 0, none⟩), .int .i64 tree, .slice A2 n2 c2] w fun e w' => e = .returned (.tuple #[.int .i64 (bldB17 q tree (capN (widN tree true)) bs l t L).1, .nilIface]) ∧ AImg w' base p m B g A n c bs (bldB17 q tree (capN (widN tree true)) bs l t L).2.1 (bldB17 q tree (capN (widN tree true)) bs l t L).2.2 ∧ Fr2 w w' (some g) (some p) := by
  obtain rfl : n2 = l.length := hE.len.symm
  have S0 := St17.start w tree p A2 l.length c2
  obtain ⟨w3, e3⟩ : ∃ w3, ((w.alloc (.cells #[.pointer (some ⟨p, 0, none⟩)] 25)).alloc (.cells #[.int .i64 tree] 3)).alloc (.cells #[.slice A2 l.length c2] 22) = w3 := ⟨_, rfl⟩
  rw [e3] at S0
  have IM := Lib.hid (Image_yes16 (h.later S0.bel).alc)
  have RT : Hid (Calls Tryz.prog 25 #[.int .i64 tree, .slice A2 l.length c2] w3 fun e w' => e = .returned (.bool true) ∧ St17 w w' tree p A2 l.length c2) := (right_any17 tree w3 (hE.below S0.bel) hEB).mono fun e w' h => ⟨by rw [h.1, hr], S0.later h.2⟩
  have LF : Hid (∀ W, St17 w W tree p A2 l.length c2 → Calls Tryz.prog 21 #[.pointer (some ⟨p, 0, none⟩)] W fun e w' => e = .returned (.int .i64 ((bs.length - t : Nat) : Int)) ∧ St17 w w' tree p A2 l.length c2) := fun W hW => (h.later hW.bel).left17.mono fun e w' h => ⟨h.1, hW.later h.2⟩
  have ND : Hid (∀ W, St17 w W tree p A2 l.length c2 → Calls Tryz.prog 19 #[.int .i64 tree, .int .i64 (l.length : Int)] W fun e w' => e = .returned (.int .i64 (lev15 l.length (capN (widN tree true))).sum) ∧ St17 w w' tree p A2 l.length c2) := fun W hW => (Nodes_any15 tree (l.length : Int) (capN (widN tree true)) rfl W).mono fun e w' h => ⟨by rw [h.1, levL15_right hr], hW.later h.2⟩
  have MD : Hid (∀ W, St17 w W tree p A2 l.length c2 → Tr17 w ((W.alloc (.cells #[.int .i64 0] 3)).alloc (.cells #[.nilIface] 37)) W.heap.size tree bs base p m B g A n c t L A2 l.length c2 l 0) := fun W hW => hW.made h hE hfar
  have LV : Hid (∀ W br, Tr17 w W br tree bs base p m B g A n c t L A2 l.length c2 l 0 → Calls Tryz.prog 28 #[.int .i64 tree, .int .i64 (l.length : Int)] W fun e w' => ∃ A3 c3, e = .returned (.slice A3 (lev15 l.length (capN (widN tree true))).length c3) ∧ Hid (Rd17 w w' br q tree (capN (widN tree true)) bs l t L base p m B g A n c 0 l l t L A2 l.length c2 0)) := fun W br hW => by
    have := Levels_any15 tree (l.length : Int) (capN (widN tree true)) rfl W
    rw [levL15_right hr] at this
    refine this.mono ?_
    rintro e w' ⟨A3, c3, h1, _, h3⟩
    exact ⟨A3, c3, h1, ⟨Lvl17.zero, fun h => by omega, .inl rfl, hEB, hW.later h3⟩⟩
  have hR := rightB17_yes hr
  have h5 := lev15_few (n := l.length) hR.pos hR.few
  have hsum := (lev15_sum l.length (capN (widN tree true))).1
  have hf : (t : Int) + (lev15 l.length (capN (widN tree true))).sum ≤ (bs.length : Int) := by have := h.alc.ints.len; have := h.alc.le; omega
  have SP : Hid (∀ (W : World) (br k : Nat) (li l0 : List Ent17) (tk : Nat) (Lk : List UInt8) (A3 : Option Addr) (n3 c3 : Nat) (x : Int), k < (lev15 l.length (capN (widN tree true))).length → Rd17 w W br q tree (capN (widN tree true)) bs l t L base p m B g A n c k li l0 tk Lk A3 n3 c3 x → Calls Tryz.prog 26 #[.bool ((k : Int) == 0), .pointer (some ⟨(br + 1), 0, none⟩), .pointer (some ⟨w.heap.size, 0, none⟩), .pointer (some ⟨w.heap.size + 1, 0, none⟩), .pointer (some ⟨w.heap.size + 2, 0, none⟩), .pointer (some ⟨br, 0, none⟩)] W fun e w' => e = .returned (.tuple #[]) ∧ Hid (∃ li l0 tk Lk A3 n3 c3 x, Rd17 w w' br q tree (capN (widN tree true)) bs l t L base p m B g A n c (k + 1) li l0 tk Lk A3 n3 c3 x)) := fun W br k li l0 tk Lk A3 n3 c3 x hk hW => hW.step hR hB hL hf ht hk
  have END : Hid (∀ (W : World) (br : Nat) (li l0 : List Ent17) (tk : Nat) (Lk : List UInt8) (A3 : Option Addr) (n3 c3 : Nat) (x : Int), Rd17 w W br q tree (capN (widN tree true)) bs l t L base p m B g A n c (lev15 l.length (capN (widN tree true))).length li l0 tk Lk A3 n3 c3 x → bldB17 q tree (capN (widN tree true)) bs l t L = (x, tk, Lk)) := fun W br li l0 tk Lk A3 n3 c3 x hW => by
    have h1 : 1 ≤ (lev15 l.length (capN (widN tree true))).length := by rw [lev15, List.length_cons]; omega
    rw [(hW.lv.last rfl).1, hW.rt h1]
  have hmf : ∀ (fn : Fn) (first cap : Array Value) (w : World), (Instr.makeFunc fn first cap).run Tryz.prog w = .ok (.func fn first cap) w := fun _ _ _ _ => rfl
  obtain ⟨c0, c1, c2_⟩ := S0.cs
  have hcap := hE.cap
  have hmost := hE.most
  clear h hE hEB hr S0 hfar hB hL ht hR hf
  have hxs : ¬ ((bs.length - t : Nat) : Int) < (lev15 l.length (capN (widN tree true))).sum := by omega
  clear hs
  generalize bldB17 q tree (capN (widN tree true)) bs l t L = R at *
  generalize (lev15 l.length (capN (widN tree true))).sum = need at *
  generalize (lev15 l.length (capN (widN tree true))).length = K at *
  generalize bs.length - t = lf at *
  generalize l.length = N at *
  go_enter Tryz.func10, Tryz.ntmps10
  go_wp2_with (first
    | (go_at_call 16; (with_reducible refine (IM.out).mono ?_); rintro e w1 ⟨rfl, rfl⟩)
    | (go_at_call 25; (with_reducible refine (RT.out).mono ?_); rintro e w2 ⟨rfl, hS2⟩; obtain ⟨d0, d1, d2⟩ := hS2.cs))
  have hS3 := hS2.later (Below.refl w2.heap.size w2).drew
  have dd := hS3.cs
  go_region_held3 (fun W => W.cell? ⟨w.heap.size, 0, none⟩ = some (.pointer (some ⟨p, 0, none⟩)) ∧ W.cell? ⟨w.heap.size + 1, 0, none⟩ = some (.int .i64 tree) ∧ W.cell? ⟨w.heap.size + 2, 0, none⟩ = some (.slice A2 N c2))
    (first | assumption | exact ⟨d0, d1, d2⟩ | go_keep)
    (first
    | (go_at_call 21; (with_reducible refine (LF.out _ (by assumption)).mono ?_); rintro e w4 ⟨rfl, hS4⟩; have f4 := hS4.cs)
    | (go_at_call 19; (with_reducible refine (ND.out _ hS4).mono ?_); rintro e w5 ⟨rfl, hS5⟩; have f5 := hS5.cs))
  have hT6 := MD.out w5 hS5
  obtain ⟨w6, e6⟩ : ∃ w6, (w5.alloc (.cells #[.int .i64 0] 3)).alloc (.cells #[.nilIface] 37) = w6 := ⟨_, rfl⟩
  rw [e6] at hT6
  obtain ⟨br, hbr⟩ : ∃ br, w5.heap.size = br := ⟨_, rfl⟩
  rw [hbr] at hT6
  have g1 := hT6.bt.cell
  have g2 := hT6.bl.cell
  have HT6 := Lib.hid hT6
  clear hT6 hS5 hS4 hS3 hS2 dd d0 d1 d2 f4 f5 IM RT LF ND MD
  go_wp2_with (go_at_call 28; (with_reducible refine (LV.out _ _ HT6.out).mono ?_); rintro e w7 ⟨A3, c3, rfl, hR7⟩)
  clear LV HT6 g1 g2
  go_loopw [35] (fun i wr => ∃ k : Nat, k ≤ K ∧ i = .int .i64 k ∧ Hid (∃ li l0 tk Lk A3 n3 c3 x, Rd17 w wr br q tree (capN (widN tree true)) bs l t L base p m B g A n c k li l0 tk Lk A3 n3 c3 x)) (fun i _ => K - (intOf i).toNat)
  case atStart => exact ⟨0, by omega, rfl, _, _, _, _, _, _, _, _, hR7.out⟩
  case round =>
    clear hR7
    obtain ⟨k, hk, rfl, li, l0, tk, Lk, A4, n4, c4, x, hR8⟩ := hrel
    by_cases hlt : k < K
    · have SPk := Lib.hid (SP.out wr br k li l0 tk Lk A4 n4 c4 x hlt hR8)
      clear SP END hR8
      go_wp2_with (go_at_call 26; (with_reducible refine (SPk.out).mono ?_); rintro e w8 ⟨rfl, hR9⟩)
      go_roundw
      case rel => exact ⟨k + 1, by omega, by go_num, hR9.out⟩
      case measure => simp [intOf]; omega
    · obtain rfl : k = K := by omega
      have hEnd := END.out _ _ _ _ _ _ _ _ _ _ hR8
      have cr := hR8.tr.br_.cell
      have cf := hR8.tr.bf.cell
      have HA := Lib.hid (And.intro hR8.tr.ai hR8.tr.fr)
      subst hEnd
      clear SP END hR8
      go_wp2
      go_quiet (fail)
      go_wp2
      go_ret2
      exact ⟨rfl, HA.out.1.later (below_drewN (Below.refl _ _) _), HA.out.2.trans (Fr2.of_below (below_drewN (Below.refl _ _) _) _ _)⟩
end
end Go.Proofs.YtnjlganofjkpfaaGreatDoor

/-
  Layer 17: Tree, for all entries.
-/
namespace Go.Proofs.YtnjlganofjkpfaaGreatDoor
open Go.RowKit
set_option linter.unusedVariables false
set_option linter.unusedSimpArgs false

section
variable {w : World} {q : Nat} {tree : Int} {l : List Ent17} {bs : List Int} {t : Nat} {L : List UInt8} {base p m B g : Nat} {A : Option Addr} {n c : Nat} {A2 : Option Addr} {n2 c2 : Nat}
theorem Tree_any17 (h : AImg w base p m B g A n c bs t L) (hE : Ens w A2 n2 c2 l) (hfar : 0 < n2 → ∀ ad, A2 = some ad → ad.block ≠ g ∧ ad.block ≠ p) (hEB : EntB l) (hB : Bs17 q bs) (hL : L.length = q * 256) (ht : i64b tree) :
    Calls Tryz.prog 10 #[.pointer (some ⟨p, 0, none⟩), .int .i64 tree, .slice A2 n2 c2] w fun e w' => e = .returned (.tuple #[.int .i64 (outB17 q tree bs l t L).root, errV17 (outB17 q tree bs l t L).x]) ∧ AImg w' base p m B g A n c bs (outB17 q tree bs l t L).t (outB17 q tree bs l t L).L ∧ Fr2 w w' (some g) (some p) := by
  cases hr : rightB17 tree l with
  | false =>
    rw [outB17_arg hr]
    exact (Tree_bad17 h hE hEB hr).mono fun e w' ⟨h1, h2⟩ => ⟨h1, h.later h2, Fr2.of_below h2 _ _⟩
  | true =>
    by_cases hs : ((bs.length - t : Nat) : Int) < (lev15 l.length (capN (widN tree true))).sum
    · rw [outB17_space hr hs]
      exact (Tree_space17 h hE hEB hr hs).mono fun e w' ⟨h1, h2⟩ => ⟨h1, h.later h2, Fr2.of_below h2 _ _⟩
    · rw [outB17_good hr (by omega)]
      exact Tree_good17 h hE hfar hEB hB hL ht hr (by omega)
end
set_option maxRecDepth 100000 in
theorem Image_no17 {v : Value} (w : World) (h : No16 w v) : Calls Tryz.prog 16 #[v] w fun e w' => e = .returned (.pointer none) ∧ w = w' := by
  have MD := Lib.hid (made_no16 w h)
  clear h
  go_enter Tryz.func16, Tryz.ntmps16
  go_wp2_with (go_at_call 40; (with_reducible refine (MD.out).mono ?_); rintro e w1 ⟨rfl, rfl⟩)
  go_ret
  exact ⟨rfl, rfl⟩
set_option maxRecDepth 100000 in
set_option maxHeartbeats 800000 in
/-- nobody builds nothing -/
theorem Tree_no17 (w : World) (tree : Int) (A2 : Option Addr) (n2 c2 : Nat) : Calls Tryz.prog 10 #[.pointer none, .int .i64 tree, .slice A2 n2 c2] w fun e w' => e = .returned (.tuple #[.int .i64 0, .iface 40 (.int .i64 18)]) ∧ Below w.heap.size w w' := by
  have hb : Below w.heap.size w (((w.alloc (.cells #[.pointer none] 25)).alloc (.cells #[.int .i64 tree] 3)).alloc (.cells #[.slice A2 n2 c2] 22)) := (((Below.refl _ _).alloc (Nat.le_refl _) _).alloc (by simp) _).alloc (by simp; omega) _
  have c0 : (((w.alloc (.cells #[.pointer none] 25)).alloc (.cells #[.int .i64 tree] 3)).alloc (.cells #[.slice A2 n2 c2] 22)).cell? ⟨w.heap.size, 0, none⟩ = some (.pointer none) := by
    have h1 : Bx17 (w.alloc (.cells #[.pointer none] 25)) w.heap.size 25 (.pointer none) := heap_alloc_new w _
    have h2 := h1.kept (w' := (w.alloc (.cells #[.pointer none] 25)).alloc (.cells #[.int .i64 tree] 3)) (Below.heap_alloc _ _ _ (block_lt h1))
    exact (h2.kept (w' := ((w.alloc (.cells #[.pointer none] 25)).alloc (.cells #[.int .i64 tree] 3)).alloc (.cells #[.slice A2 n2 c2] 22)) (Below.heap_alloc _ _ _ (block_lt h2))).cell
  obtain ⟨w3, e3⟩ : ∃ w3, ((w.alloc (.cells #[.pointer none] 25)).alloc (.cells #[.int .i64 tree] 3)).alloc (.cells #[.slice A2 n2 c2] 22) = w3 := ⟨_, rfl⟩
  rw [e3] at hb c0
  have IM := Lib.hid (Image_no17 w3 (v := .pointer none) (.inl rfl))
  go_enter Tryz.func10, Tryz.ntmps10
  go_wp2_with (go_at_call 16; (with_reducible refine (IM.out).mono ?_); rintro e w1 ⟨rfl, rfl⟩)
  go_ret2
  exact ⟨rfl, hb⟩
end Go.Proofs.YtnjlganofjkpfaaGreatDoor

/-
  Layer 17: what the statements make: an allocator, entries; the document's example.
-/
namespace Go.Proofs.YtnjlganofjkpfaaGreatDoor
open Go.RowKit
set_option linter.unusedVariables false
set_option linter.unusedSimpArgs false

abbrev zero17 (n : Nat) : List UInt8 := List.replicate n 0
theorem make17 (n : Nat) (hn : n ≤ 3600000) (W : World) : (Instr.makeSlice 29 (.int .i64 (n : Int)) (.int .i64 (n : Int))).run Tryz.prog W = .ok (.slice (some ⟨W.heap.size, 0, none⟩) n n) (W.alloc (.cells (u8s (zero17 n)).toArray 5)) := by
  have e : madeCells #[Value.int .u8 0] n = (u8s (zero17 n)).toArray := by
    apply Array.ext'
    rw [zeros_u8]
  rw [← e]
  exact run_make_row' 29 5 (.int .u8 0) 1 Tryz.underlying29 info_u8 rfl _ _ n (by omega) (by omega) W
theorem made17_bytes (W : World) (n : Nat) (hn : n ≤ 3600000) : Bytes8 (W.alloc (.cells (u8s (zero17 n)).toArray 5)) (some ⟨W.heap.size, 0, none⟩) n n (zero17 n) :=
  ⟨by simp, Nat.le_refl _, by omega, Row.of_block (t := 5) (fr := (0, 0)) (heap_alloc_new W _)⟩

/-- an allocator that was made: or there is none -/
def Md17 (w W : World) (q : Nat) (f : Int) (va : Value) : Prop :=
  ((f < 1 ∨ (q : Int) < f) ∧ va = .pointer none) ∨ (¬ (f < 1 ∨ (q : Int) < f) ∧ ∃ base p m g A n c, va = .pointer (some ⟨p, 0, none⟩) ∧ AImg W base p m w.heap.size g A n c (seq16 f.toNat q) 0 (zero17 (q * 256)) ∧ w.heap.size ≤ base)
theorem Md17.later {w W W' : World} {q : Nat} {f : Int} {va : Value} (h : Md17 w W q f va) (hb : Below W.heap.size W W') : Md17 w W' q f va := by
  rcases h with h | ⟨h1, base, p, m, g, A, n, c, h2, h3, h4⟩
  · exact .inl h
  · exact .inr ⟨h1, base, p, m, g, A, n, c, h2, h3.later hb, h4⟩

set_option maxRecDepth 100000 in
set_option maxHeartbeats 1600000 in
theorem made_any17 (q : Nat) (f : Int) (w : World) (hq : q ≤ 1000) :
    Calls Tryz.prog 7 #[.int .i64 (q : Int), .int .i64 f] w fun e w' => ∃ va, e = .returned va ∧ Md17 w w' q f va ∧ Below w.heap.size w w' := by
  have mk := make17 (q * 256) (by omega) w
  have hb1 : Below w.heap.size w (w.alloc (.cells (u8s (zero17 (q * 256))).toArray 5)) := (Below.refl _ _).alloc (Nat.le_refl _) _
  have OF : Hid (Calls Tryz.prog 23 #[.slice (some ⟨w.heap.size, 0, none⟩) (q * 256) (q * 256)] (w.alloc (.cells (u8s (zero17 (q * 256))).toArray 5)) fun e w' => ∃ m g, e = .returned (.pointer (some ⟨m, 0, none⟩)) ∧ Img w' w.heap.size m g (zero17 (q * 256)) ∧ Below w.heap.size w w') := by
    refine (Of_any _ (q * 256) (q * 256) _ _ (made17_bytes w (q * 256) (by omega))).mono ?_
    rintro e w' ⟨m, g, h1, h2, h3⟩
    have e : whole (q * 256) * 256 = q * 256 := by unfold whole; omega
    rw [e, List.take_of_length_le (by simp)] at h2
    exact ⟨m, g, h1, h2.down hb1.size, hb1.trans (h3.mono hb1.size)⟩
  have hL : (zero17 (q * 256)).length = q * 256 := by simp
  have NW : Hid (∀ W m g, Img W w.heap.size m g (zero17 (q * 256)) → Below w.heap.size w W → Calls Tryz.prog 22 #[.pointer (some ⟨m, 0, none⟩), .int .i64 f] W fun e w' => ∃ va ve, e = .returned (.tuple #[va, ve]) ∧ Hid (Md17 w w' q f va) ∧ Below w.heap.size w w') := fun W m g hI hb => by
    by_cases hf : f < 1 ∨ (q : Int) < f
    · refine (New_bad16 f hI hL hf).mono ?_
      rintro e w' ⟨h1, rfl⟩
      exact ⟨_, _, h1, .inl ⟨hf, rfl⟩, hb⟩
    · obtain ⟨j, rfl⟩ := Int.eq_ofNat_of_zero_le (show 0 ≤ f by omega)
      refine (New_good16 j hI hL (by omega) (by omega)).mono ?_
      rintro e w' ⟨p, A2, c2, h1, h2, h3⟩
      exact ⟨_, _, h1, .inr ⟨hf, _, p, m, g, A2, _, c2, rfl, by rw [Int.toNat_natCast]; exact ⟨h2, hI.later h3, hI.plt, hI.glt⟩, hb.size⟩, hb.trans (h3.mono hb.size)⟩
  obtain ⟨n, hn⟩ : ∃ n, q * 256 = n := ⟨_, rfl⟩
  rw [show ((q * 256 : Nat) : Int) = 256 * (q : Int) by omega] at mk
  rw [hn] at mk OF
  simp only [hn] at NW
  clear hb1 hL hn
  go_enter Tryz.func7, Tryz.ntmps7
  go_wp2_with (first
    | (go_at_call 23; (with_reducible refine (OF.out).mono ?_); rintro e w2 ⟨m, g, rfl, hI2, hb2⟩)
    | (go_at_call 22; (with_reducible refine (NW.out _ _ _ hI2 hb2).mono ?_); rintro e w3 ⟨va, ve, rfl, hM3, hb3⟩))
  go_ret
  exact ⟨va, rfl, hM3.out, hb3⟩

/-- entries of a tree -/
def some17 (wd n : Nat) : List Ent17 := (List.range n).map fun i : Nat => (3 * (i : Int), zero17 wd, 0)
theorem some17_length (wd n : Nat) : (some17 wd n).length = n := by simp [some17]
theorem some17_succ (wd n : Nat) : some17 wd (n + 1) = some17 wd n ++ [(3 * (n : Int), zero17 wd, 0)] := by simp [some17, List.range_succ]
theorem tree17_width (T : Nat) (h : 1 ≤ T ∧ T ≤ 5) (W : World) : (W.alloc (.cells #[.int .i64 0, .int .i64 4, .int .i64 8, .int .i64 24, .int .i64 16, .int .i64 4] 3)).cell? ⟨W.heap.size, T, none⟩ = some (.int .i64 ((widN (T : Int) true : Nat) : Int)) := by
  rw [cell_of_row _ W.heap.size T _ _ _ (heap_alloc_new W _)]
  rcases (show T = 1 ∨ T = 2 ∨ T = 3 ∨ T = 4 ∨ T = 5 by omega) with rfl | rfl | rfl | rfl | rfl <;> rfl

set_option maxRecDepth 100000 in
set_option maxHeartbeats 1600000 in
theorem some_any17 (T n : Nat) (hT : 1 ≤ T ∧ T ≤ 5) (hn : n ≤ 1000) (w : World) :
    Calls Tryz.prog 20 #[.int .i64 (n : Int), .int .i64 (T : Int)] w fun e w' => ∃ v, e = .returned v ∧ w'.ownsRow w.heap.size 57 3 v n (entC (some17 (widN (T : Int) true) n)) ∧ Below w.heap.size w w' := by
  have TW := Lib.hid (fun W => tree17_width T hT W)
  have hw24 : widN (T : Int) true ≤ 24 := by rcases widN_cases (T : Int) true with ⟨h1, _⟩ | ⟨h1, _⟩ | ⟨h1, _⟩ | ⟨h1, _⟩ | ⟨h1, _⟩ <;> omega
  obtain ⟨hT1, hT5⟩ := hT
  have hT6 : T < 6 := by omega
  have hT6i : (T : Int) < 6 := by omega
  generalize widN (T : Int) true = wd at *
  go_enter Tryz.func20, Tryz.ntmps20
  go_wp2
  go_loopw [5, 6] (fun v i wr => ∃ k : Nat, k ≤ n ∧ i = .int .i64 k ∧ Hid (wr.ownsRow w.heap.size 57 3 v k (entC (some17 wd k))) ∧ Hid (Below w.heap.size w wr)) (fun _ i _ => n - (intOf i).toNat)
  case atStart => exact ⟨0, by omega, rfl, World.ownsRow_nil _ _ _ _, Below.refl _ _⟩
  case round =>
    obtain ⟨k, hk, rfl, hown, hb⟩ := hrel
    by_cases hlt : k < n
    · have hc := TW.out wr
      have hsz := hb.out.size
      have b1 : Below wr.heap.size wr (wr.alloc (.cells #[.int .i64 0, .int .i64 4, .int .i64 8, .int .i64 24, .int .i64 16, .int .i64 4] 3)) := (Below.refl _ _).alloc (Nat.le_refl _) _
      obtain ⟨w1, e1⟩ : ∃ w1, wr.alloc (.cells #[.int .i64 0, .int .i64 4, .int .i64 8, .int .i64 24, .int .i64 16, .int .i64 4] 3) = w1 := ⟨_, rfl⟩
      rw [e1] at hc b1
      have mk := make17 wd (by omega) w1
      have hB8 := made17_bytes w1 wd (by omega)
      have b2 : Below w1.heap.size w1 (w1.alloc (.cells (u8s (zero17 wd)).toArray 5)) := (Below.refl _ _).alloc (Nat.le_refl _) _
      obtain ⟨w2, e2⟩ : ∃ w2, w1.alloc (.cells (u8s (zero17 wd)).toArray 5) = w2 := ⟨_, rfl⟩
      rw [e2] at mk hB8 b2
      have cv := run_str hB8
      obtain ⟨s, hs⟩ : ∃ s : ByteArray, (⟨(zero17 wd).toArray⟩ : ByteArray) = s := ⟨_, rfl⟩
      rw [hs] at cv
      have HS := Lib.hid hs
      have b12 : Below wr.heap.size wr w2 := b1.trans (b2.mono b1.size)
      have HO2 : Hid (w2.ownsRow w.heap.size 57 3 u5 k (entC (some17 wd k))) := own_keptS hown.out (fun j _ hj => b12.block j hj)
      have HB2 := Lib.hid (hb.out.trans (b12.mono hb.out.size))
      have hs2 : w.heap.size ≤ w2.heap.size := Nat.le_trans hb.out.size b12.size
      have HST := Lib.hid (some17_succ wd k)
      clear hs hB8 b1 b2 b12 hown hb
      go_wp2_with (at_builtin; refine wpList_append_newS w2 rfl (.tmp 12) (.tmp 22) 22 rfl w.heap.size 57 57 3 (.agg #[.int .i64 0, .string ByteArray.empty, .int .i64 0]) 32 Tryz.underlying22 info_ent17 rfl (by omega) u5 k (entC (some17 wd k)) rfl HO2 hs2 [.int .i64 (3 * (k : Int)), .string s, .int .i64 0] 1 1 rfl rfl (by simp [Value.oneCell']) (by omega) (by omega) ?_; intro v3 w3 hown3 hs3 hb3)
      go_roundw
      case rel => exact ⟨k + 1, by omega, by go_num, by
        have h9 := hown3.out
        rw [HST.out, entC_snoc]
        have e9 : entC [(3 * (k : Int), zero17 wd, (0 : Int))] = [.int .i64 (3 * (k : Int)), .string s, .int .i64 0] := by rw [← HS.out]; rfl
        rw [e9]
        exact h9, HB2.out.trans hb3⟩
      case measure => simp [intOf]; omega
    · obtain rfl : k = n := by omega
      go_wp2
      go_ret
      exact ⟨_, rfl, hown.out, hb.out⟩
end Go.Proofs.YtnjlganofjkpfaaGreatDoor

/-
  Layer 17: the document's example.
-/
namespace Go.Proofs.YtnjlganofjkpfaaGreatDoor
open Go.RowKit
set_option linter.unusedVariables false
set_option linter.unusedSimpArgs false

theorem some17_entB {wd : Nat} (hw : wd ≤ 24) {n : Nat} (hn : n ≤ 1000) : EntB (some17 wd n) := by
  intro q hq
  obtain ⟨i, hi, rfl⟩ := List.mem_map.1 hq
  have := List.mem_range.1 hi
  exact ⟨⟨by show -9223372036854775808 ≤ 3 * (i : Int); omega, by show 3 * (i : Int) ≤ _; omega⟩, by simp; omega⟩
theorem wide17 {T : Nat} (hT : 1 ≤ T ∧ T ≤ 5) : widN (T : Int) true ≤ 24 ∧ 6 ≤ capN (widN (T : Int) true) ∧ capN (widN (T : Int) true) ≤ 18 := by
  rcases (show T = 1 ∨ T = 2 ∨ T = 3 ∨ T = 4 ∨ T = 5 by omega) with rfl | rfl | rfl | rfl | rfl <;> decide
/-- entries whose keys rise are a tree's -/
theorem right17_of {tree : Int} {l : List Ent17} (hc : capN (widN tree true) ≠ 0) (hl : l.length ≤ 32768) (hk : ∀ e ∈ l, 0 ≤ e.1 ∧ e.1 ≤ maxK ∧ e.2.1.length = widN tree true) (hu : ∀ i, i + 1 < l.length → key17 l i < key17 l (i + 1)) : rightB17 tree l = true := by
  refine rightB17_of hc hl fun i hi => at17_yes.2 ?_
  have h1 := hk _ (List.getElem_mem hi)
  rw [key17_at hi, val17_at hi]
  refine ⟨h1.1, h1.2.1, ?_, h1.2.2⟩
  by_cases h0 : i = 0
  · exact .inl h0
  · right
    have := hu (i - 1) (by omega)
    rw [show i - 1 + 1 = i by omega, key17_at hi] at this
    exact this
theorem some17_right {T n : Nat} (hT : 1 ≤ T ∧ T ≤ 5) (hn : n ≤ 1000) : rightB17 (T : Int) (some17 (widN (T : Int) true) n) = true := by
  have hw := wide17 hT
  have hK : maxK = 281474976710655 := rfl
  refine right17_of (by omega) (by rw [some17_length]; omega) (fun e he => ?_) (fun i hi => ?_)
  · obtain ⟨i, hi, rfl⟩ := List.mem_map.1 he
    have := List.mem_range.1 hi
    exact ⟨by show 0 ≤ 3 * (i : Int); omega, by show 3 * (i : Int) ≤ maxK; omega, by simp⟩
  · rw [some17_length] at hi
    rw [key17_at (by rw [some17_length]; omega), key17_at (by rw [some17_length]; omega)]
    simp only [some17, List.getElem_map, List.getElem_range]
    omega
/-- what Tree answers over the blocks from f on, where there is room -/
theorem out17_room {q f need : Nat} {tree : Int} {l : List Ent17} {L : List UInt8} (hr : rightB17 tree l = true) (hneed : (lev15 l.length (capN (widN tree true))).sum = (need : Int)) (hroom : need ≤ q - f) :
    (outB17 q tree (seq16 f q) l 0 L).x = 0 ∧ (outB17 q tree (seq16 f q) l 0 L).root = ((f + need - 1 : Nat) : Int) ∧ (outB17 q tree (seq16 f q) l 0 L).t = need ∧ (outB17 q tree (seq16 f q) l 0 L).L = (bldB17 q tree (capN (widN tree true)) (seq16 f q) l 0 L).2.2 ∧ (bldB17 q tree (capN (widN tree true)) (seq16 f q) l 0 L).2.1 = need ∧ (bldB17 q tree (capN (widN tree true)) (seq16 f q) l 0 L).1 = ((f + need - 1 : Nat) : Int) := by
  have h1 : (lev15 l.length (capN (widN tree true))).sum ≤ (((seq16 f q).length - 0 : Nat) : Int) := by rw [hneed, seq16_length]; omega
  have ht := bldB17_taken q tree (capN (widN tree true)) (seq16 f q) l 0 L
  have hrt := bldB17_root q tree (capN (widN tree true)) (seq16 f q) l 0 L
  have hp := (lev15_sum l.length (capN (widN tree true))).1
  rw [hneed] at ht hp
  have e1 : (bldB17 q tree (capN (widN tree true)) (seq16 f q) l 0 L).2.1 = need := by omega
  rw [e1, seq16_getD (by omega)] at hrt
  have e2 : f + (need - 1) = f + need - 1 := by omega
  rw [e2] at hrt
  rw [outB17_good hr h1]
  exact ⟨rfl, hrt, e1, rfl, e1, hrt⟩
/-- an allocator and entries made behind it -/
theorem Ens.behind17 {w1 w2 : World} {n : Nat} {v : Value} {l : List Ent17} (h : w2.ownsRow w1.heap.size 57 3 v n (entC l)) {g p : Nat} (hg : g < w1.heap.size) (hp : p < w1.heap.size) : ∃ A c, v = .slice A n c ∧ Ens w2 A n c l ∧ ∀ ad, A = some ad → ad.block ≠ g ∧ ad.block ≠ p := by
  obtain ⟨A, c, rfl, hE⟩ := Ens.of_own h
  refine ⟨A, c, rfl, hE, fun ad e => ?_⟩
  have := Newer.of_own h ad e
  omega
/-- what an allocator that was made builds of entries made behind it -/
theorem Md17.tree {w w1 w2 : World} {q : Nat} {f : Int} {va v : Value} {T n : Nat} {l : List Ent17} (h : Md17 w w1 q f va) (hb : Below w1.heap.size w1 w2) (hf : ¬ (f < 1 ∨ (q : Int) < f)) (hq : q ≤ 1000) (hT : 1 ≤ T ∧ T ≤ 5) (hl : EntB l) (ho : w2.ownsRow w1.heap.size 57 3 v n (entC l)) :
    ∃ base p m g A n' c, va = .pointer (some ⟨p, 0, none⟩) ∧ w.heap.size ≤ base ∧ Calls Tryz.prog 10 #[.pointer (some ⟨p, 0, none⟩), .int .i64 (T : Int), v] w2 fun e w' => e = .returned (.tuple #[.int .i64 (outB17 q T (seq16 f.toNat q) l 0 (zero17 (q * 256))).root, errV17 (outB17 q T (seq16 f.toNat q) l 0 (zero17 (q * 256))).x]) ∧ AImg w' base p m w.heap.size g A n' c (seq16 f.toNat q) (outB17 q T (seq16 f.toNat q) l 0 (zero17 (q * 256))).t (outB17 q T (seq16 f.toNat q) l 0 (zero17 (q * 256))).L ∧ Fr2 w2 w' (some g) (some p) := by
  rcases h with ⟨h1, _⟩ | ⟨_, base, p, m, g, A, n', c, rfl, h3, h4⟩
  · exact absurd h1 hf
  · have hpl := h3.alc.plt
    have hgl := h3.img.glt
    obtain ⟨A2, c2, rfl, hE, hfar⟩ := Ens.behind17 ho hgl hpl
    refine ⟨base, p, m, g, A, n', c, rfl, h4, Tree_any17 (h3.later hb) hE (fun _ => hfar) hl (seq17_bs (by omega) (by omega)) (by simp) ?_⟩
    simp only [i64b]
    omega

theorem live17_sum : (lev15 13 (capN (widN ((2 : Nat) : Int) true))).sum = ((3 : Nat) : Int) := by
  have e : capN (widN ((2 : Nat) : Int) true) = 12 := by decide
  have e1 : fil15 13 12 = 2 := by decide
  have e2 : fil15 2 18 = 1 := by decide
  rw [e, lev15, e1, up15_more (by omega), e2, up15_one (by omega)]
  rfl
set_option maxRecDepth 100000 in
set_option maxHeartbeats 1600000 in
theorem lives17_any (w : World) : Calls Tryz.prog 6 #[] w fun e w' => e = .returned (.bool true) ∧ Below w.heap.size w w' := by
  have MD : Hid (Calls Tryz.prog 7 #[.int .i64 9, .int .i64 5] w fun e w' => ∃ p, e = .returned (.pointer (some ⟨p, 0, none⟩)) ∧ Hid (Md17 w w' 9 5 (.pointer (some ⟨p, 0, none⟩))) ∧ Below w.heap.size w w') := by
    refine (made_any17 9 5 w (by omega)).mono ?_
    rintro e w' ⟨va, rfl, h2, h3⟩
    rcases h2 with ⟨h1, _⟩ | ⟨h1, base, p, m, g, A, n, c, rfl, h4⟩
    · exact absurd h1 (by omega)
    · exact ⟨p, rfl, .inr ⟨h1, base, p, m, g, A, n, c, rfl, h4⟩, h3⟩
  have SM : Hid (∀ W, Calls Tryz.prog 20 #[.int .i64 13, .int .i64 2] W fun e w' => ∃ v, e = .returned v ∧ w'.ownsRow W.heap.size 57 3 v 13 (entC (some17 (widN ((2 : Nat) : Int) true) 13)) ∧ Below W.heap.size W w') := fun W => some_any17 2 13 (by omega) (by omega) W
  have TR : Hid (∀ W W2 p v, Hid (Md17 w W 9 5 (.pointer (some ⟨p, 0, none⟩))) → Below w.heap.size w W → Below W.heap.size W W2 → W2.ownsRow W.heap.size 57 3 v 13 (entC (some17 (widN ((2 : Nat) : Int) true) 13)) → Calls Tryz.prog 10 #[.pointer (some ⟨p, 0, none⟩), .int .i64 2, v] W2 fun e w' => e = .returned (.tuple #[.int .i64 7, .nilIface]) ∧ Hid (Below w.heap.size w w' ∧ Calls Tryz.prog 15 #[.pointer (some ⟨p, 0, none⟩)] w' fun e w2 => e = .returned (.int .i64 3) ∧ w' = w2)) := fun W W2 p v hM hb hb2 ho => by
    obtain ⟨base, p', m, g, A, n', c, hv, hlo, hC⟩ := Md17.tree (T := 2) hM.out hb2 (by omega) (by omega) (by omega) (some17_entB (by decide) (by omega)) ho
    injection hv with hv
    injection hv with hv
    injection hv with hv
    subst hv
    have hr := some17_right (T := 2) (n := 13) (by omega) (by omega)
    obtain ⟨o1, o2, o3, _⟩ := out17_room (q := 9) (f := 5) (L := zero17 (9 * 256)) hr (by rw [some17_length]; exact live17_sum) (by omega)
    have e5 : (5 : Int).toNat = 5 := rfl
    rw [e5, o1, o2, o3] at hC
    refine hC.mono ?_
    rintro e w' ⟨h1, h2, h3⟩
    refine ⟨h1, ?_, Used_yes16 h2.alc⟩
    have e1 := hb.trans (hb2.mono hb.size)
    have hbg := h2.img.bg
    have hbp := h2.alc.bp
    exact ⟨h3.os.trans e1.os, h3.tape.trans e1.tape, h3.output.trans e1.output, Nat.le_trans e1.size h3.size, fun k hk => (h3.block k (Nat.lt_of_lt_of_le hk e1.size) (fun e => by injection e; omega) (fun e => by injection e; omega)).trans (e1.block k hk)⟩
  go_enter Tryz.func6, Tryz.ntmps6
  go_wp2_with (first
    | (go_at_call 7; (with_reducible refine (MD.out).mono ?_); rintro e w1 ⟨p, rfl, hM1, hb1⟩)
    | (go_at_call 20; (with_reducible refine (SM.out _).mono ?_); rintro e w2 ⟨v, rfl, ho2, hb2⟩)
    | (go_at_call 10; (with_reducible refine (TR.out _ _ _ _ hM1 hb1 hb2 ho2).mono ?_); rintro e w3 ⟨rfl, hX3⟩)
    | (go_at_call 15; (with_reducible refine (hX3.out.2).mono ?_); rintro e w4 ⟨rfl, rfl⟩))
  go_ret
  exact ⟨rfl, hX3.out.1⟩
end Go.Proofs.YtnjlganofjkpfaaGreatDoor

/-
  The walk of BuildSpace.
-/
namespace Go.Proofs.YtnjlganofjkpfaaGreatDoor
open Go.RowKit
set_option linter.unusedVariables false
set_option linter.unusedSimpArgs false

/-- an allocator over the blocks from 1 on; its own blocks lie from lo on -/
def Al17 (lo : Nat) (W : World) (p q t : Nat) (L : List UInt8) : Prop := ∃ base m g A n c, AImg W base p m lo g A n c (seq16 1 q) t L ∧ lo ≤ base ∧ L.length = q * 256
section
variable {lo : Nat} {W W' : World} {p q t : Nat} {L : List UInt8}
theorem Al17.plt (h : Al17 lo W p q t L) : p < W.heap.size := by
  obtain ⟨base, m, g, A, n, c, h1, _⟩ := h
  exact h1.alc.plt
theorem Al17.low (h : Al17 lo W p q t L) : lo ≤ p := by
  obtain ⟨base, m, g, A, n, c, h1, h2, _⟩ := h
  exact Nat.le_trans h2 h1.alc.bp
theorem Al17.later (h : Al17 lo W p q t L) (hb : Below W.heap.size W W') : Al17 lo W' p q t L := by
  obtain ⟨base, m, g, A, n, c, h1, h2, h3⟩ := h
  exact ⟨base, m, g, A, n, c, h1.later hb, h2, h3⟩
theorem Al17.keep {B9 : Nat} (h : Al17 lo W p q t L) (hb : Below B9 W W') (hp : p < B9) : Al17 lo W' p q t L := by
  obtain ⟨base, m, g, A, n, c, h1, h2, h3⟩ := h
  exact ⟨base, m, g, A, n, c, h1.keep17 hb hp, h2, h3⟩
theorem Al17.used (h : Al17 lo W p q t L) : Calls Tryz.prog 15 #[.pointer (some ⟨p, 0, none⟩)] W fun e w' => e = .returned (.int .i64 (t : Int)) ∧ W = w' := by
  obtain ⟨base, m, g, A, n, c, h1, h2, h3⟩ := h
  exact Used_yes16 h1.alc
theorem Al17.left (h : Al17 lo W p q t L) : Calls Tryz.prog 21 #[.pointer (some ⟨p, 0, none⟩)] W fun e w' => e = .returned (.int .i64 ((q - 1 - t : Nat) : Int)) ∧ Below W.heap.size W w' := by
  obtain ⟨base, m, g, A, n, c, h1, h2, h3⟩ := h
  refine h1.left17.mono fun e w' h => ⟨?_, h.2⟩
  rw [h.1, seq16_length]
theorem Al17.tree {W0 : World} {T n : Nat} {v : Value} {l : List Ent17} (h : Al17 lo W0 p q t L) (hq : q ≤ 1000) (hb : Below W0.heap.size W0 W) (hT : 1 ≤ T ∧ T ≤ 5) (hl : EntB l) (ho : W.ownsRow W0.heap.size 57 3 v n (entC l)) :
    Calls Tryz.prog 10 #[.pointer (some ⟨p, 0, none⟩), .int .i64 (T : Int), v] W fun e w' => e = .returned (.tuple #[.int .i64 (outB17 q T (seq16 1 q) l t L).root, errV17 (outB17 q T (seq16 1 q) l t L).x]) ∧ (∃ L', Al17 lo w' p q (outB17 q T (seq16 1 q) l t L).t L') ∧ Below lo W w' ∧ (∀ k, p < k → k < W.heap.size → w'.heap[k]? = W.heap[k]?) := by
  obtain ⟨base, m, g, A, n', c, h1, h2, h3⟩ := h
  have hpl := h1.alc.plt
  have hgl := h1.img.glt
  have e1 := h1.img.bg
  have e2 := h1.alc.bp
  have e3 := h1.glt
  obtain ⟨A2, c2, rfl, hE, hfar⟩ := Ens.behind17 ho hgl hpl
  refine (Tree_any17 (h1.later hb) hE (fun _ => hfar) hl (seq17_bs (by omega) (by omega)) h3 (by simp only [i64b]; omega)).mono ?_
  rintro e w' ⟨g1, g2, g3⟩
  refine ⟨g1, ⟨_, base, m, g, A, n', c, g2, h2, ?_⟩, ⟨g3.os, g3.tape, g3.output, g3.size, fun k hk => ?_⟩, fun k hk hk2 => g3.block k hk2 (fun e => by injection e; omega) (fun e => by injection e; omega)⟩
  · have := g2.img.hp
    have hq0 : (outB17 q T (seq16 1 q) l t L).L.length = q * 256 := outB17_length h3
    exact hq0
  · by_cases hk3 : k < W.heap.size
    · exact g3.block k hk3 (fun e => by injection e; omega) (fun e => by injection e; omega)
    · have := hb.size
      omega
end

/-- both allocators of BuildSpace -/
structure Sp17 (w W : World) (r s k pa ta pb tb : Nat) : Prop where
  bel : Below w.heap.size w W
  a : ∃ L, Al17 r W pa (k + 1) ta L
  b : ∃ L, Al17 s W pb k tb L
  hr : w.heap.size ≤ r
  hs : pa < s
section
variable {w W W' : World} {r s k pa ta pb tb : Nat}
theorem Sp17.later (h : Sp17 w W r s k pa ta pb tb) (hb : Below W.heap.size W W') : Sp17 w W' r s k pa ta pb tb := by
  obtain ⟨La, ha⟩ := h.a
  obtain ⟨Lb, hb2⟩ := h.b
  exact ⟨h.bel.trans (hb.mono h.bel.size), ⟨La, ha.later hb⟩, ⟨Lb, hb2.later hb⟩, h.hr, h.hs⟩
end

end Go.Proofs.YtnjlganofjkpfaaGreatDoor
