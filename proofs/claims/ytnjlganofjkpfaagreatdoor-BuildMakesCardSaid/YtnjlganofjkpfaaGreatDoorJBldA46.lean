/-
  Joined: BldS, BldU, BldX, BldLawA, BldLawD.
-/
import Derived.Deep.RegionHeld3
import Derived.Test.YtnjlganofjkpfaaGreatDoorJBldA40
import Derived.Test.YtnjlganofjkpfaaGreatDoorJBldA44
import Derived.Test.YtnjlganofjkpfaaGreatDoorJBldA18
import Derived.Test.YtnjlganofjkpfaaGreatDoorJBldA41
import Derived.LoopTactic
import Derived.Test.YtnjlganofjkpfaaGreatDoorJBldA39
import Derived.Test.YtnjlganofjkpfaaGreatDoorJBldA17
import Derived.Test.YtnjlganofjkpfaaGreatDoorJBldA04
import Derived.Test.YtnjlganofjkpfaaGreatDoorJBldA45
import Derived.Deep.RegionWith
import Derived.Deep.DeepCutAuto
/-
  Layer 17: the reference's Tree: what its loops keep; no tree, no room.
-/
namespace Go.Proofs.YtnjlganofjkpfaaGreatDoor
open Go.RowKit
set_option linter.unusedVariables false
set_option linter.unusedSimpArgs false

theorem RAImg.keep17 {w w' : World} {base p m B B9 : Nat} {v : Value} {fr : List Int} {u : Nat} {M : List (List UInt8)} (h : RAImg w base p m B v fr u M) (hb : Below B9 w w') (h1 : p < B9) : RAImg w' base p m B v fr u M := by
  have h2 := h.mlt
  have h4 := h.ra.1
  refine ⟨?_, h.ri.mov (hb.block m (by omega)) (fun k e => hb.block k (by have := h.own k e; omega)), h2, h.own⟩
  obtain ⟨h0, A, c, g1, g2, g3⟩ := h.ra
  refine ⟨h0, A, c, (hb.block p h1).trans g1, ⟨g2.len, g2.cap, g2.most, fun k v e => ?_⟩, g3⟩
  obtain ⟨ad, ea, hc⟩ := g2.row k v e
  refine ⟨ad, ea, ?_⟩
  have hbk : (ad.add k).block = ad.block := addr_add_block ad k
  exact (World.cell?_of_block (w := w) (hb.block _ (by rw [hbk]; have := (g3 ad ea).2; omega))).trans hc

/-- the reference's Tree, while a level is written: t blocks taken, the entries li to be laid, lu above -/
structure Ru17 (w W : World) (q : Nat) (bs : List Int) (base p m B : Nat) (v : Value) (t : Nat) (L : List UInt8) (A3 : Option Addr) (n3 c3 : Nat) (li : List Ent17) (bu : Nat) (vu : Value) (lu : List Ent17) : Prop where
  ra : RAImg W base p m B v (bs.drop t) t (blks L q)
  ens : Ens W A3 n3 c3 li
  far : 0 < n3 → ∀ ad, A3 = some ad → some ad.block ≠ v.ownBlock ∧ ad.block ≠ p ∧ ad.block < bu
  fr : Fr2 w W v.ownBlock (some p)
  res : FltAt W w.heap.size (.slice none 0 0) (.int .i64 0)
  hp : p < w.heap.size
  lo : w.heap.size < bu
  sz : bu ≤ W.heap.size
  up : W.ownsRow bu 57 3 vu lu.length (entC lu)
section
variable {w W W' : World} {q : Nat} {bs : List Int} {base p m B : Nat} {v : Value} {t : Nat} {L : List UInt8} {A3 : Option Addr} {n3 c3 : Nat} {li : List Ent17} {bu : Nat} {vu : Value} {lu : List Ent17}
theorem Ru17.olt (h : Ru17 w W q bs base p m B v t L A3 n3 c3 li bu vu lu) : ∀ k, v.ownBlock = some k → k < w.heap.size := fun k e => by
  have := h.ra.own k e
  have := h.ra.ra.1
  have := h.hp
  omega
theorem Ru17.later (h : Ru17 w W q bs base p m B v t L A3 n3 c3 li bu vu lu) (hb : Below W.heap.size W W') : Ru17 w W' q bs base p m B v t L A3 n3 c3 li bu vu lu :=
  ⟨h.ra.later hb, h.ens.below hb, h.far, h.fr.trans (Fr2.of_below hb _ _), h.res.later hb, h.hp, h.lo, Nat.le_trans h.sz hb.size, own_keptS h.up (fun k _ hk => hb.block k hk)⟩
theorem Ru17.laid (h : Ru17 w W q bs base p m B v t L A3 n3 c3 li bu vu lu) {t' : Nat} {L' : List UInt8} (ha : RAImg W' base p m B v (bs.drop t') t' (blks L' q)) (hf : Fr2 W W' v.ownBlock (some p)) : Ru17 w W' q bs base p m B v t' L' A3 n3 c3 li bu vu lu := by
  have ho := h.olt
  have hp := h.hp
  have hlo := h.lo
  refine ⟨ha, h.ens.fr17 (fun h0 ad e => ?_) hf, h.far, h.fr.trans hf, (hf.block _ (block_lt h.res) (fun e => by have := ho _ e.symm; omega) (fun e => by injection e; omega)).trans h.res, hp, hlo, Nat.le_trans h.sz hf.size, own_keptS h.up (fun k hk hs => hf.block k hs (fun e => by have := ho _ e.symm; omega) (fun e => by injection e; omega))⟩
  obtain ⟨a, b, _⟩ := h.far h0 ad e
  exact ⟨a, fun e => b (by injection e)⟩
theorem Ru17.grew (h : Ru17 w W q bs base p m B v t L A3 n3 c3 li bu vu lu) {vu' : Value} {lu' : List Ent17} (ho : W'.ownsRow bu 57 3 vu' lu'.length (entC lu')) (hg : W.grownBy W' vu.ownBlock) : Ru17 w W' q bs base p m B v t L A3 n3 c3 li bu vu' lu' := by
  have hp := h.hp
  have hlo := h.lo
  have hsz := h.sz
  have hb : Below bu W W' := ⟨hg.os, hg.tape, hg.output, hg.size, fun k hk => hg.block k (by omega) (fun e => by have := (own_apartS h.up k e.symm).1; omega)⟩
  refine ⟨h.ra.keep17 hb (by omega), ⟨h.ens.len, h.ens.cap, h.ens.most, fun k x e => ?_⟩, h.far, ⟨hb.os.trans h.fr.os, hb.tape.trans h.fr.tape, hb.output.trans h.fr.output, Nat.le_trans h.fr.size hb.size, fun k hk h1 h2 => (hb.block k (by omega)).trans (h.fr.block k hk h1 h2)⟩, (hb.block _ hlo).trans h.res, hp, hlo, Nat.le_trans hsz hb.size, ho⟩
  have h0 : 0 < n3 := Nat.pos_of_ne_zero fun e2 => by
    have hl := h.ens.len
    rw [e2] at hl
    rw [List.eq_nil_of_length_eq_zero hl] at e
    simp [entC] at e
  obtain ⟨ad, ea, hc⟩ := h.ens.row k x e
  refine ⟨ad, ea, ?_⟩
  have hbk : (ad.add k).block = ad.block := addr_add_block ad k
  exact (World.cell?_of_block (w := W) (hb.block _ (by rw [hbk]; exact (h.far h0 ad ea).2.2))).trans hc
/-- the level above comes next -/
theorem Ru17.next (h : Ru17 w W q bs base p m B v t L A3 n3 c3 li bu vu lu) : ∃ A4 c4, vu = .slice A4 lu.length c4 ∧ Ru17 w W q bs base p m B v t L A4 lu.length c4 lu W.heap.size (.slice none 0 0) [] := by
  obtain ⟨A4, c4, rfl, hE⟩ := Ens.of_own h.up
  have ho := h.olt
  have hp := h.hp
  have hlo := h.lo
  have hsz := h.sz
  refine ⟨A4, c4, rfl, h.ra, hE, fun h0 ad e => ?_, h.fr, h.res, hp, by omega, Nat.le_refl _, World.ownsRow_nil _ _ _ _⟩
  have hn := Newer.of_own h.up ad e
  obtain ⟨b', off', hA', hlt, _⟩ := hE.row.lit (by rw [entC_length]; omega)
  rw [hA'] at e
  injection e with e
  rw [← e] at hn ⊢
  have hn' : bu ≤ b' := hn
  exact ⟨fun e => by have := ho _ e.symm; have h9 : b' < w.heap.size := this; omega, by show b' ≠ p; omega, hlt⟩
theorem Ru17.start (h : RAImg w base p m B v (bs.drop t) t (blks L q)) (hE : Ens w A3 n3 c3 li) (hfar : 0 < n3 → ∀ ad, A3 = some ad → some ad.block ≠ v.ownBlock ∧ ad.block ≠ p) (hb : Below w.heap.size w W) (hr : FltAt W w.heap.size (.slice none 0 0) (.int .i64 0)) : Ru17 w W q bs base p m B v t L A3 n3 c3 li W.heap.size (.slice none 0 0) [] := by
  refine ⟨h.later hb, hE.below hb, fun h0 ad e => ?_, Fr2.of_below hb _ _, hr, h.ra.plt, block_lt hr, Nat.le_refl _, World.ownsRow_nil _ _ _ _⟩
  have hl := hE.len
  obtain ⟨b', off', hA', hlt, _⟩ := hE.row.lit (by rw [entC_length]; omega)
  refine ⟨(hfar h0 ad e).1, (hfar h0 ad e).2, ?_⟩
  rw [hA'] at e
  injection e with e
  rw [← e]
  exact Nat.lt_of_lt_of_le hlt hb.size
end

section
variable {w : World} {q : Nat} {tree : Int} {l : List Ent17} {bs : List Int} {t : Nat} {L : List UInt8} {base p m B : Nat} {v : Value} {A2 : Option Addr} {n2 c2 : Nat}
set_option maxRecDepth 100000 in
set_option maxHeartbeats 1600000 in
theorem refTree_bad17 (h : RAImg w base p m B v (bs.drop t) t (blks L q)) (hE : Ens w A2 n2 c2 l) (hEB : EntB l) (ht : i64b tree) (hr : rightB17 tree l = false) :
    Calls Tryz.prog 12 #[.pointer (some ⟨p, 0, none⟩), .int .i64 tree, .slice A2 n2 c2] w fun e w' => e = .returned (.tuple #[.int .i64 0, rf none 0 0 1]) ∧ Below w.heap.size w w' := by
  have hX := Rx16.start w
  obtain ⟨w0, hw0⟩ : ∃ w0, w.alloc (.cells #[.slice none 0 0, .int .i64 0] 33) = w0 := ⟨_, rfl⟩
  rw [hw0] at hX
  have RT : Hid (Calls Tryz.prog 33 #[.int .i64 tree, .slice A2 n2 c2] w0 fun e w' => e = .returned (.bool false) ∧ Rx16 w w') := (refRight_any17 tree w0 (hE.below hX.bel) hEB ht).mono fun e w' h => ⟨by rw [h.1, hr], hX.later h.2⟩
  clear h hE hEB ht hr hX
  simp only [rf]
  go_enter Tryz.func12, Tryz.ntmps12
  go_wp2_with (go_at_call 33; (with_reducible refine (RT.out).mono ?_); rintro e w1 ⟨rfl, hX1⟩; obtain ⟨⟨y0, y1⟩, y2, y3⟩ := hX1.flt.cs)
  refine bodyPost_ret (blk_resT Tryz.results12 _ _ rfl (hX1.flt.store _ _).load) rfl ?_
  exact ⟨rfl, below_store2 hX1.bel (Nat.le_refl _) _ _⟩

set_option maxRecDepth 100000 in
set_option maxHeartbeats 1600000 in
theorem refTree_space17 (h : RAImg w base p m B v (bs.drop t) t (blks L q)) (hE : Ens w A2 n2 c2 l) (hEB : EntB l) (ht : i64b tree) (hr : rightB17 tree l = true) (hs : ((bs.length - t : Nat) : Int) < (lev15 l.length (capN (widN tree true))).sum) :
    Calls Tryz.prog 12 #[.pointer (some ⟨p, 0, none⟩), .int .i64 tree, .slice A2 n2 c2] w fun e w' => e = .returned (.tuple #[.int .i64 0, rf none 0 0 14]) ∧ Below w.heap.size w w' := by
  obtain rfl : n2 = l.length := hE.len.symm
  have hX := Rx16.start w
  obtain ⟨w0, hw0⟩ : ∃ w0, w.alloc (.cells #[.slice none 0 0, .int .i64 0] 33) = w0 := ⟨_, rfl⟩
  rw [hw0] at hX
  have RT : Hid (Calls Tryz.prog 33 #[.int .i64 tree, .slice A2 l.length c2] w0 fun e w' => e = .returned (.bool true) ∧ Rx16 w w') := (refRight_any17 tree w0 (hE.below hX.bel) hEB ht).mono fun e w' h => ⟨by rw [h.1, hr], hX.later h.2⟩
  have ND : Hid (∀ W, Rx16 w W → Calls Tryz.prog 34 #[.int .i64 tree, .int .i64 (l.length : Int)] W fun e w' => e = .returned (.int .i64 (lev15 l.length (capN (widN tree true))).sum) ∧ Rx16 w w') := fun W hW => (refNodes_any15 tree (l.length : Int) (capN (widN tree true)) ht rfl W).mono fun e w' h => ⟨by rw [h.1, levL15_right hr], hW.later h.2⟩
  have hld : (bs.drop t).length = bs.length - t := List.length_drop
  obtain ⟨Af, cf, hfr⟩ : ∃ Af cf, ∀ W, Below w.heap.size w W → W.cell? ⟨p, 1, none⟩ = some (.slice Af (bs.length - t) cf) := by
    obtain ⟨_, Af, cf, g1, _⟩ := h.ra
    rw [hld] at g1
    exact ⟨Af, cf, fun W hb => (hb.cell (p := ⟨p, 1, none⟩) h.ra.plt).trans (by rw [cell_of_row w p 1 _ _ _ g1]; rfl)⟩
  have HFR := Lib.hid (fun W (hW : Rx16 w W) => hfr W hW.bel)
  have hcap := hE.cap
  have hmost := hE.most
  clear h hE hEB ht hr hX hfr hld
  generalize (lev15 l.length (capN (widN tree true))).sum = need at *
  generalize bs.length - t = lf at *
  generalize l.length = N at *
  simp only [rf]
  go_enter Tryz.func12, Tryz.ntmps12
  go_wp2_with (go_at_call 33; (with_reducible refine (RT.out).mono ?_); rintro e w1 ⟨rfl, hX1⟩)
  have f1 := HFR.out _ hX1
  have hX2 := hX1.later (Below.refl w1.heap.size w1).drew
  have f2 := HFR.out _ hX2
  go_region_held3 (fun W => W.cell? ⟨p, 1, none⟩ = some (.slice Af lf cf))
    (first | assumption | go_keep)
    (first | (go_at_call 34; (with_reducible refine (ND.out _ (by assumption)).mono ?_); rintro e w3 ⟨rfl, hX3⟩; have f3 := HFR.out _ hX3; obtain ⟨⟨y0, y1⟩, y2, y3⟩ := hX3.flt.cs))
  go_wp2
  refine bodyPost_ret (blk_resT Tryz.results12 _ _ rfl (hX3.flt.store _ _).load) rfl ?_
  exact ⟨rfl, below_store2 hX3.bel (Nat.le_refl _) _ _⟩
end
end Go.Proofs.YtnjlganofjkpfaaGreatDoor

/-
  Layer 17: the reference's Tree, where there is a tree and room.
-/
namespace Go.Proofs.YtnjlganofjkpfaaGreatDoor
open Go.RowKit
set_option linter.unusedVariables false
set_option linter.unusedSimpArgs false

theorem nod17_keys {tree : Int} {leaf : Bool} {li : List Ent17} {mm k j : Nat} (hj : j < mm) (hz : k * mm + j < li.length) : (nodB17 tree leaf mm li k).keys.take (j + 1) = (nodB17 tree leaf mm li k).keys.take j ++ [key17 li (k * mm + j)] := by
  rw [key17_at hz]
  have hl : j < (nodB17 tree leaf mm li k).keys.length := by simp [nodB17]; omega
  rw [List.take_succ_eq_append_getElem hl]
  simp [nodB17]
theorem nod17_vals {tree : Int} {leaf : Bool} {li : List Ent17} {mm k j : Nat} (hj : j < mm) (hz : k * mm + j < li.length) : (nodB17 tree leaf mm li k).vals.take (j + 1) = (nodB17 tree leaf mm li k).vals.take j ++ [val17 li (k * mm + j)] := by
  rw [val17_at hz]
  have hl : j < (nodB17 tree leaf mm li k).vals.length := by simp [nodB17]; omega
  rw [List.take_succ_eq_append_getElem hl]
  simp [nodB17]
theorem nod17_len {tree : Int} {leaf : Bool} {li : List Ent17} {mm k : Nat} : (nodB17 tree leaf mm li k).keys.length = el15 li.length mm k ∧ (nodB17 tree leaf mm li k).vals.length = el15 li.length mm k := by
  unfold el15
  simp [nodB17]
  omega
theorem fil17_lt {n m : Nat} (hm : 2 ≤ m) (h : 1 < fil15 n m) : fil15 n m < n := by
  unfold fil15 at *
  have h1 : (max n 1 - 1) / m ≤ (max n 1 - 1) / 2 := Nat.div_le_div_left hm (by omega)
  have h2 : 0 < (max n 1 - 1) / m := by omega
  omega
theorem fil17_in {n m k : Nat} (hm : 1 ≤ m) (hk : k < fil15 n m) : (k * m < n ∨ (k = 0 ∧ n = 0)) ∧ k * m + m ≤ fil15 n m * m := by
  refine ⟨?_, ?_⟩
  · by_cases h0 : k = 0
    · subst h0
      by_cases hn : n = 0
      · exact .inr ⟨rfl, hn⟩
      · exact .inl (by simp; omega)
    · left
      apply Classical.byContradiction
      intro h
      have := (fil15_room (n := n) hm (show 1 ≤ k by omega)).2 (by rw [Nat.mul_comm]; omega)
      omega
  · rw [← Nat.succ_mul]
    exact Nat.mul_le_mul_right m hk
theorem fil17_out {n m : Nat} (hm : 1 ≤ m) : n ≤ fil15 n m * m ∧ 1 ≤ fil15 n m * m ∧ fil15 n m * m ≤ n + m := by
  have h1 := (fil15_room (n := n) hm (fil15_pos n m)).1 (Nat.le_refl _)
  rw [Nat.mul_comm] at h1
  refine ⟨h1, Nat.mul_pos (fil15_pos n m) hm, ?_⟩
  have h2 : (max n 1 - 1) / m * m ≤ max n 1 - 1 := Nat.div_mul_le_self _ _
  have e : fil15 n m * m = (max n 1 - 1) / m * m + m := by unfold fil15; rw [Nat.succ_mul]
  omega
theorem cap17_six {tree : Int} {leaf : Bool} (h : 1 ≤ capN (widN tree leaf)) : 6 ≤ capN (widN tree leaf) ∧ capN (widN tree leaf) ≤ 18 := by
  rcases widN_cases tree leaf with ⟨_, h2⟩ | ⟨_, h2⟩ | ⟨_, h2⟩ | ⟨_, h2⟩ | ⟨_, h2⟩ <;> omega
theorem EntB.upL17 {l : List Ent17} (h : EntB l) (m : Nat) (bs : List Int) (t k : Nat) : EntB (upL17 m l bs t k) := by
  intro q hq
  obtain ⟨j, _, rfl⟩ := List.mem_map.1 hq
  refine ⟨?_, by simp [upE17, encN_length]⟩
  show _ ≤ ((l.drop (j * m)).headD (0, [], 0)).1 ∧ ((l.drop (j * m)).headD (0, [], 0)).1 ≤ _
  cases hd : l.drop (j * m) with
  | nil => simp
  | cons x r => exact (h x (List.mem_of_mem_drop (by rw [hd]; exact List.mem_cons_self ..))).1
theorem EntB.node17 {l : List Ent17} (h : EntB l) (tree : Int) (leaf : Bool) (m k : Nat) : (∀ x ∈ (nodB17 tree leaf m l k).keys, i64b x) ∧ ∀ x ∈ (nodB17 tree leaf m l k).vals, x.length ≤ 9223372036854775807 := by
  refine ⟨fun x hx => ?_, fun x hx => ?_⟩
  · obtain ⟨q, hq, rfl⟩ := List.mem_map.1 hx
    exact (h q (List.mem_of_mem_drop (List.mem_of_mem_take hq))).1
  · obtain ⟨q, hq, rfl⟩ := List.mem_map.1 hx
    exact (h q (List.mem_of_mem_drop (List.mem_of_mem_take hq))).2
theorem refNode17 {tree : Int} {leaf : Bool} {mm k : Nat} {li : List Ent17} {W : World} {Ak : Option Addr} {s ck : Nat} {Av : Option Addr} {cv : Nat} (h : NodIn W (nodB17 tree leaf mm li k) Ak s ck Av s cv) (hr : rightN (nodB17 tree leaf mm li k) = true) :
    Calls Tryz.prog 36 #[.agg #[.int .i64 tree, .bool leaf, .slice Ak s ck, .slice Av s cv]] W fun e w' => ∃ A' c', e = .returned (.tuple #[.slice A' 244 c', .int .i64 0]) ∧ Bytes8 w' A' 244 c' (encNod (nodB17 tree leaf mm li k)) ∧ Below W.heap.size W w' := by
  cases leaf with
  | true => exact refPut_true W tree _ _ Ak s ck Av s cv h hr
  | false => exact refPut_false W tree _ _ Ak s ck Av s cv h hr

section
variable {w : World} {q : Nat} {tree : Int} {l : List Ent17} {bs : List Int} {t : Nat} {L : List UInt8} {base p m B : Nat} {v : Value} {A2 : Option Addr} {n2 c2 : Nat}
set_option maxRecDepth 100000 in
set_option maxHeartbeats 12800000 in
theorem refTree_good17 (h : RAImg w base p m B v (bs.drop t) t (blks L q)) (hE : Ens w A2 n2 c2 l) (hfar : 0 < n2 → ∀ ad, A2 = some ad → some ad.block ≠ v.ownBlock ∧ ad.block ≠ p) (hEB : EntB l) (hB : Bs17 q bs) (hL : L.length = q * 256) (ht : i64b tree) (hbs : bs.length ≤ 100000) (htl : t ≤ bs.length) (hr : rightB17 tree l = true) (hs : (lev15 l.length (capN (widN tree true))).sum ≤ ((bs.length - t : Nat) : Int)) :
    Calls Tryz.prog 12 #[.pointer (some ⟨p, 0, none⟩), .int .i64 tree, .slice A2 n2 c2] w fun e w' => e = .returned (.tuple #[.int .i64 (bldB17 q tree (capN (widN tree true)) bs l t L).1, rf none 0 0 0]) ∧ RAImg w' base p m B v (bs.drop (bldB17 q tree (capN (widN tree true)) bs l t L).2.1) (bldB17 q tree (capN (widN tree true)) bs l t L).2.1 (blks (bldB17 q tree (capN (widN tree true)) bs l t L).2.2 q) ∧ Fr2 w w' v.ownBlock (some p) := by
  obtain rfl : n2 = l.length := hE.len.symm
  have hX := Rx16.start w
  obtain ⟨w0, hw0⟩ : ∃ w0, w.alloc (.cells #[.slice none 0 0, .int .i64 0] 33) = w0 := ⟨_, rfl⟩
  rw [hw0] at hX
  have RT : Hid (Calls Tryz.prog 33 #[.int .i64 tree, .slice A2 l.length c2] w0 fun e w' => e = .returned (.bool true) ∧ Rx16 w w') := (refRight_any17 tree w0 (hE.below hX.bel) hEB ht).mono fun e w' h => ⟨by rw [h.1, hr], hX.later h.2⟩
  have ND : Hid (∀ W, Rx16 w W → Calls Tryz.prog 34 #[.int .i64 tree, .int .i64 (l.length : Int)] W fun e w' => e = .returned (.int .i64 (lev15 l.length (capN (widN tree true))).sum) ∧ Rx16 w w') := fun W hW => (refNodes_any15 tree (l.length : Int) (capN (widN tree true)) ht rfl W).mono fun e w' h => ⟨by rw [h.1, levL15_right hr], hW.later h.2⟩
  have hld : (bs.drop t).length = bs.length - t := List.length_drop
  obtain ⟨Af, cf, hfr⟩ : ∃ Af cf, ∀ W, Below w.heap.size w W → W.cell? ⟨p, 1, none⟩ = some (.slice Af (bs.length - t) cf) := by
    obtain ⟨_, Af, cf, g1, _⟩ := h.ra
    rw [hld] at g1
    exact ⟨Af, cf, fun W hb => (hb.cell (p := ⟨p, 1, none⟩) h.ra.plt).trans (by rw [cell_of_row w p 1 _ _ _ g1]; rfl)⟩
  have HFR := Lib.hid (fun W (hW : Rx16 w W) => hfr W hW.bel)
  have hcap := hE.cap
  have hmost := hE.most
  have hR := rightB17_yes hr
  have h5 := lev15_few (n := l.length) hR.pos hR.few
  have hsum := (lev15_sum l.length (capN (widN tree true))).1
  have hf : (t : Int) + (lev15 l.length (capN (widN tree true))).sum ≤ (bs.length : Int) := by omega
  have ST : Hid (∀ W, Rx16 w W → Ru17 w W q bs base p m B v t L A2 l.length c2 l W.heap.size (.slice none 0 0) []) := fun W hW => Ru17.start h hE hfar hW.bel hW.flt
  have hK0 : 1 ≤ (lev15 l.length (capN (widN tree true))).length := by rw [lev15, List.length_cons]; omega
  have LVS : Hid (∀ (i : Nat) (li : List Ent17) (ti : Nat) (Li : List UInt8), i < (lev15 l.length (capN (widN tree true))).length → Lvl17 q tree (capN (widN tree true)) bs l t L i li ti Li → LvF17 q tree bs (decide (i = 0)) (lvM17 (capN (widN tree true)) i) li ti Li ∧ Lvl17 q tree (capN (widN tree true)) bs l t L (i + 1) (upL17 (lvM17 (capN (widN tree true)) i) li bs ti (fil15 li.length (lvM17 (capN (widN tree true)) i))) (ti + fil15 li.length (lvM17 (capN (widN tree true)) i)) (levW17 q tree (decide (i = 0)) (lvM17 (capN (widN tree true)) i) li bs ti (fil15 li.length (lvM17 (capN (widN tree true)) i)) Li)) := fun i li ti Li hi hl => ⟨(hl.step hR hB hL hf hi).1, (hl.step hR hB hL hf hi).2.2⟩
  have LV0 : Hid (Lvl17 q tree (capN (widN tree true)) bs l t L 0 l t L) := Lvl17.zero
  have LONE : Hid (∀ (i : Nat) (li : List Ent17) (ti : Nat) (Li : List UInt8), Lvl17 q tree (capN (widN tree true)) bs l t L i li ti Li → 1 ≤ i → (li.length = 1 ↔ i = (lev15 l.length (capN (widN tree true))).length)) := fun i li ti Li h h1 => h.one h1
  have LAST : Hid (∀ (i : Nat) (li : List Ent17) (ti : Nat) (Li : List UInt8), Lvl17 q tree (capN (widN tree true)) bs l t L i li ti Li → i = (lev15 l.length (capN (widN tree true))).length → bldB17 q tree (capN (widN tree true)) bs l t L = (bs.getD (ti - 1) 0, ti, Li)) := fun i li ti Li h h1 => (h.last h1).1
  have HEB := Lib.hid hEB
  have HB := Lib.hid hB
  have HT := Lib.hid ht
  have HBS := Lib.hid hbs
  have BY : Hid (∀ W (nb : Nat), nb ≤ 14399 → Calls Tryz.prog 38 #[.int .i64 (nb : Int), .int .i64 4] W fun e w' => ∃ A' c', e = .returned (.slice A' 4 c') ∧ Bytes8 w' A' 4 c' (encN 4 nb) ∧ Below W.heap.size W w') := fun W nb hnb => (Bytes_any nb 4 W (by omega) (by omega)).mono fun e w' ⟨v', he, ho, hb⟩ => by
    obtain ⟨A', c', rfl, hB⟩ := Bytes8.of_own ho
    exact ⟨A', c', he, hB, hb⟩
  clear h hE hfar hEB ht hX hfr hld hB hL hf hR hbs
  have hxs : ¬ ((bs.length - t : Nat) : Int) < (lev15 l.length (capN (widN tree true))).sum := by omega
  clear hs hr
  generalize bldB17 q tree (capN (widN tree true)) bs l t L = R at *
  generalize (lev15 l.length (capN (widN tree true))).sum = need at *
  generalize (lev15 l.length (capN (widN tree true))).length = K at *
  generalize bs.length - t = lf at *
  generalize hN0 : l.length = N0 at *
  have HN0 := Lib.hid hN0
  clear hN0
  generalize capN (widN tree true) = mm0 at *
  simp only [rf]
  go_enter Tryz.func12, Tryz.ntmps12
  go_wp2_with (go_at_call 33; (with_reducible refine (RT.out).mono ?_); rintro e w1 ⟨rfl, hX1⟩)
  have f1 := HFR.out _ hX1
  have hX2 := hX1.later (Below.refl w1.heap.size w1).drew
  have f2 := HFR.out _ hX2
  go_region_held3 (fun W => W.cell? ⟨p, 1, none⟩ = some (.slice Af lf cf))
    (first | assumption | go_keep)
    (first | (go_at_call 34; (with_reducible refine (ND.out _ (by assumption)).mono ?_); rintro e w3 ⟨rfl, hX3⟩; have f3 := HFR.out _ hX3))
  have HRU := Lib.hid (ST.out _ hX3)
  clear f1 f2 f3 hX1 hX2 hX3 HFR ND RT ST
  go_wp2
  go_loopw [2, 8] (fun v2 v8 wr => ∃ (i : Nat) (li : List Ent17) (ti : Nat) (Li : List UInt8) (A3 : Option Addr) (c3 : Nat), v2 = .slice A3 li.length c3 ∧ v8 = .bool (decide (i = 0)) ∧ Hid (i < K ∧ Lvl17 q tree mm0 bs l t L i li ti Li ∧ EntB li ∧ Ru17 w wr q bs base p m B v ti Li A3 li.length c3 li wr.heap.size (.slice none 0 0) [])) (fun v2 _ _ => lenV v2)
  case atStart => exact ⟨0, l, t, L, A2, c2, by rw [HN0.out], rfl, by omega, LV0.out, HEB.out, by rw [HN0.out]; exact HRU.out⟩
  case round =>
    clear HRU LV0 HEB
    obtain ⟨i, li, ti, Li, A3, c3, rfl, rfl, hiK, hLv, hEBi, hRu⟩ := hrel
    have hST := LVS.out i li ti Li hiK hLv
    obtain ⟨hF, hNx⟩ := hST
    obtain ⟨leaf, hleaf⟩ : ∃ leaf, decide (i = 0) = leaf := ⟨_, rfl⟩
    obtain ⟨mm, hmm⟩ : ∃ mm, lvM17 mm0 i = mm := ⟨_, rfl⟩
    simp only [hleaf]
    rw [hleaf, hmm] at hF hNx
    have HLEAF := Lib.hid hleaf
    clear hleaf hmm LVS
    have hcap3 := hRu.ens.cap
    have hmost3 := hRu.ens.most
    have hmp := hF.pos
    have hc6 := cap17_six (tree := tree) (leaf := leaf) (by rw [hF.cap]; exact hmp)
    rw [hF.cap] at hc6
    obtain ⟨hm6, hm18⟩ := hc6
    have hfew := hF.few
    have hroom := hF.room
    have hfil := fil15_le (n := li.length) hmp
    have hfp := fil15_pos li.length mm
    obtain ⟨hfo1, hfo2, hfo3⟩ := fil17_out (n := li.length) hmp
    have FIN := Lib.hid (fun k (hk : k < fil15 li.length mm) => fil17_in hmp hk)
    have FLT := Lib.hid (fun (h : 1 < fil15 li.length mm) => fil17_lt (n := li.length) (m := mm) (by omega) h)
    have MX := Lib.hid (fun W => refMax_any tree leaf W mm hF.cap HT.out)
    have PT := Lib.hid (fun (W : World) (k : Nat) (hk : k < fil15 li.length mm) (Ak : Option Addr) (s ck : Nat) (Av : Option Addr) (cv : Nat) (h : NodIn W (nodB17 tree leaf mm li k) Ak s ck Av s cv) => refNode17 h (hF.right k hk))
    have LY : Hid (∀ (W : World) (k : Nat) (A5 : Option Addr) (c5 bu : Nat) (vu : Value) (lu : List Ent17), k < fil15 li.length mm → Ru17 w W q bs base p m B v (ti + k) (levW17 q tree leaf mm li bs ti k Li) A3 li.length c3 li bu vu lu → Bytes8 W A5 244 c5 (encNod (nodB17 tree leaf mm li k)) → Calls Tryz.prog 37 #[.pointer (some ⟨p, 0, none⟩), .int .i64 2, .slice A5 244 c5] W fun e w' => e = .returned (.tuple #[.int .i64 (bs.getD (ti + k) 0), .agg #[.slice none 0 0, .int .i64 0]]) ∧ Hid (Ru17 w w' q bs base p m B v (ti + (k + 1)) (levW17 q tree leaf mm li bs ti (k + 1) Li) A3 li.length c3 li bu vu lu) ∧ Hid (Fr2 W w' v.ownBlock (some p))) := fun W k A5 c5 bu vu lu hk hW hB8 => by
      have hbs := HBS.out
      refine (hW.ra.laid17 HB.out hF.len (by omega) (by omega) (hF.right k hk) hB8).mono ?_
      rintro e w' ⟨h1, h2, h3⟩
      exact ⟨h1, hW.laid h2 h3, h3⟩
    have NB : Hid (∀ k, k < fil15 li.length mm → ∃ nb : Nat, bs.getD (ti + k) 0 = (nb : Int) ∧ nb ≤ 14399) := fun k hk => by
      have h1 := HB.out.low (ti + k) (by omega)
      have h2 := HB.out.most
      exact ⟨(bs.getD (ti + k) 0).toNat, by omega, by omega⟩
    have NEB := Lib.hid (fun k => hEBi.node17 tree leaf mm k)
    have HEI := Lib.hid hEBi
    have HLEN := Lib.hid (fun k => nod17_len (tree := tree) (leaf := leaf) (li := li) (mm := mm) (k := k))
    have HKS := Lib.hid (fun k j (h1 : j < mm) (h2 : k * mm + j < li.length) => nod17_keys (tree := tree) (leaf := leaf) (k := k) h1 h2)
    have HVS := Lib.hid (fun k j (h1 : j < mm) (h2 : k * mm + j < li.length) => nod17_vals (tree := tree) (leaf := leaf) (k := k) h1 h2)
    have HNX := Lib.hid hNx
    have HRu := Lib.hid hRu
    have HiK := Lib.hid hiK
    clear hF hNx hRu hEBi hLv hiK
    obtain ⟨bu, hbu⟩ : ∃ bu, wr.heap.size = bu := ⟨_, rfl⟩
    rw [hbu] at HRu
    clear hbu
    generalize hFg : fil15 li.length mm = F at *
    have HFG := Lib.hid hFg
    clear hFg
    obtain ⟨FM, hFM⟩ : ∃ FM, F * mm = FM := ⟨_, rfl⟩
    rw [hFM] at hfo1 hfo2 hfo3
    have HFM := Lib.hid hFM
    have FINM : Hid (∀ k, k < F → (k * mm < li.length ∨ (k = 0 ∧ li.length = 0)) ∧ k * mm + mm ≤ FM) := fun k hk => by rw [← hFM]; exact FIN.out k hk
    clear hFM FIN
    go_wp2_with (go_at_call 35; (with_reducible refine (MX.out _).mono ?_); rintro e w5 ⟨rfl, hb5⟩)
    have HR5 : Hid (Ru17 w w5 q bs base p m B v (ti + 0) (levW17 q tree leaf mm li bs ti 0 Li) A3 li.length c3 li bu (.slice none 0 0) (upL17 mm li bs ti 0)) := HRu.out.later hb5
    clear HRu hb5 MX
    generalize hNg : li.length = N at *
    have HNG := Lib.hid hNg
    clear hNg
    go_loopw [9, 10] (fun v9 v10 wr => ∃ k y : Nat, k ≤ F ∧ v10 = .int .i64 y ∧ Hid (y = k * mm) ∧ Hid (Ru17 w wr q bs base p m B v (ti + k) (levW17 q tree leaf mm li bs ti k Li) A3 N c3 li bu v9 (upL17 mm li bs ti k))) (fun _ v10 _ => FM - (intOf v10).toNat)
    case atStart => exact ⟨0, 0, by omega, rfl, by simp [Hid], HR5.out⟩
    case round =>
      clear HR5
      obtain ⟨k, y, hk, rfl, hy, hRk⟩ := hrel
      by_cases hlt : k < F
      · have hin := FINM.out k hlt
        rw [← hy.out] at hin
        obtain ⟨hin1, hin2⟩ := hin
        obtain ⟨nb, hnb1, hnb2⟩ := NB.out k hlt
        have hlen2 := HLEN.out k
        obtain ⟨wa, hwa⟩ : ∃ wa : World, wa = wr := ⟨_, rfl⟩
        subst hwa
        have HRk := Lib.hid hRk.out
        clear hRk
        by_cases hyN : y < N
        · have hd1 : decide ((y : Int) < (N : Int)) = true := decide_eq_true (by omega)
          have hd2 : decide (y < N) = true := decide_eq_true hyN
          have hszm : el15 N mm k ≤ mm := Nat.min_le_right _ _
          have hszN : y + el15 N mm k ≤ N := by rw [hy.out]; have h2 := Nat.min_le_left (N - k * mm) mm; unfold el15; have h3 := hy.out; omega
          have hszp : 0 < el15 N mm k := by unfold el15; rw [← hy.out]; omega
          have hszx : y + el15 N mm k < N → el15 N mm k = mm := fun h => by unfold el15 at *; rw [← hy.out] at *; omega
          obtain ⟨sz, hszd⟩ : ∃ sz, el15 N mm k = sz := ⟨_, rfl⟩
          rw [hszd] at hszm hszN hszp hszx
          have HSZX := Lib.hid hszx
          clear hszx
          have hsz : el15 N mm k = sz := hszd
          rw [hsz] at hlen2
          obtain ⟨hlk, hlv⟩ := hlen2
          have HLK := Lib.hid (And.intro hlk hlv)
          have HNB := Lib.hid hnb1
          have HSZ := Lib.hid hsz
          have M0 := Lib.hid (MsN.start wa tree leaf)
          clear hlk hlv hnb1 hsz hszd
          go_wp2
          go_loopw [13] (fun v13 wr => ∃ j z : Nat, j ≤ sz ∧ v13 = .int .i64 z ∧ Hid (z = y + j) ∧ Hid (∃ Ak ck Av cv, MsN wa wr tree leaf j Ak ck j Av cv ((nodB17 tree leaf mm li k).keys.take j) ((nodB17 tree leaf mm li k).vals.take j))) (fun v13 _ => y + sz - (intOf v13).toNat)
          case atStart => exact ⟨0, y, by omega, rfl, rfl, none, 0, none, 0, by simpa using M0.out⟩
          case round =>
            clear M0
            obtain ⟨j, z, hj, rfl, hz, Ak, ck, Av, cv, hS⟩ := hrel
            by_cases hjs : j < sz
            · have hzz := hz.out
              have hjm : j < mm := by have := hszm; omega
              have hzN : z < N := by have := hszN; omega
              have hzi : (z : Int) < (N : Int) := by omega
              have hzm : (z : Int) < (y : Int) + (mm : Int) := by omega
              have hzl : k * mm + j < N := by rw [← hy.out]; omega
              have hks := Lib.hid (HKS.out k j hjm hzl)
              have hvs := Lib.hid (HVS.out k j hjm hzl)
              have hez : k * mm + j = z := by rw [← hy.out]; omega
              rw [hez] at hks hvs
              have hbW : Below wa.heap.size wa wr := hS.bel
              obtain ⟨b, off, hA, _, _, _⟩ := (HRk.out.ens.below hbW).at_ (k := z) hzN
              have CZ : Hid (∀ W, Below wa.heap.size wa W → W.cell? ⟨b, off + z * 3, none⟩ = some (.int .i64 (key17 li z)) ∧ W.cell? ⟨b, off + z * 3 + 1, none⟩ = some (.string ⟨(val17 li z).toArray⟩)) := fun W hW => by
                obtain ⟨b', off', hA', e0, e1, _⟩ := (HRk.out.ens.below hW).at_ (k := z) hzN
                rw [hA] at hA'
                injection hA' with hA'
                injection hA' with x1 x2
                subst x1 x2
                rw [← Nat.add_assoc] at e1
                have hzl2 : z < li.length := by rw [HNG.out]; exact hzN
                exact ⟨by rw [key17_at hzl2]; exact e0, by rw [val17_at hzl2]; exact e1⟩
              clear hez hzl
              obtain ⟨c0, c1⟩ := CZ.out wr hbW
              generalize key17 li z = key at *
              generalize val17 li z = vl at *
              subst hA
              obtain ⟨s, hse⟩ : ∃ s : ByteArray, (⟨vl.toArray⟩ : ByteArray) = s := ⟨_, rfl⟩
              simp only [hse] at CZ c1
              have HSE := Lib.hid hse
              clear hse
              have b1 : Below wr.heap.size wr (wr.alloc (.cells #[.int .i64 key] 3)) := (Below.refl _ _).alloc (Nat.le_refl _) _
              have hbW1 : Below wa.heap.size wa (wr.alloc (.cells #[.int .i64 key] 3)) := hbW.trans (b1.mono hbW.size)
              have c0a := (CZ.out _ hbW1).1
              have n2 := hS.node.c2
              have n2a := (hS.later b1).node.c2
              have HM := Lib.hid (hS.later b1.drew)
              have HBk : Hid ((wr.alloc (.cells #[.int .i64 key] 3)).drew.heap[wr.heap.size]? = some (.cells #[.int .i64 key] 3 (0, 0))) := heap_alloc_new wr (.cells #[.int .i64 key] 3)
              clear hS b1 hbW1 hzz
              go_wp2
              go_region_law (first
                | (refine step_append_rowG _ rfl (.tmp 64) (.tmp 70) 31 rfl (wa.heap.size + 1) 3 1 _ 8 Tryz.underlying31 info_i64 rfl (by omega) (.slice Ak j ck) j _ rfl HM.out.ok HM.out.low ⟨wr.heap.size, 0, none⟩ [.int .i64 key] 1 1 rfl rfl (Row.of_block (t := 3) (fr := (0, 0)) HBk.out) (by simp [Value.oneCell']) (by omega) (by omega) ?_
                   intro v6 w6 ho6 hg6
                   obtain ⟨Ak', ck', rfl, hn6, hS6⟩ := HM.out.addKey ho6.out hg6.out
                   have m2 := hn6.c2
                   have g2 := Lib.frozen_of_heap hn6 2
                   clear ho6 hg6 hn6))
              all_goals (
                have n3 := hS6.node.c3
                have HS6 := Lib.hid hS6
                generalize w6.setCell ⟨wa.heap.size, 2, none⟩ (.slice Ak' (j + 1) ck') = w7 at *
                clear hS6 m2 g2 n2 n2a c0 c0a c1 HM HBk
                have b2 : Below w7.heap.size w7 (w7.alloc (.cells #[.string s] 9)) := (Below.refl _ _).alloc (Nat.le_refl _) _
                have d1 := (CZ.out w7 HS6.out.bel).2
                have d1a := (CZ.out _ (HS6.out.bel.trans (b2.mono HS6.out.bel.size))).2
                have n3a := (HS6.out.later b2).node.c3
                have HM7 := Lib.hid (HS6.out.later b2.drew)
                have HBk7 : Hid ((w7.alloc (.cells #[.string s] 9)).drew.heap[w7.heap.size]? = some (.cells #[.string s] 9 (0, 0))) := heap_alloc_new w7 (.cells #[.string s] 9)
                go_wp2
                go_region_law (first
                  | (refine step_append_rowG _ rfl (.tmp 74) (.tmp 80) 61 rfl (wa.heap.size + 1) 9 1 _ 16 Tryz.underlying61 info_strv17 rfl (by omega) (.slice Av j cv) j _ rfl HM7.out.ov HM7.out.low ⟨w7.heap.size, 0, none⟩ [.string s] 1 1 rfl rfl (Row.of_block (t := 9) (fr := (0, 0)) HBk7.out) (by simp [Value.oneCell']) (by omega) (by omega) ?_
                     intro v8 w8 ho8 hg8
                     obtain ⟨Av', cv', rfl, hn8, hS8⟩ := HM7.out.addVal (s := vl) (by have := ho8.out; rw [← HSE.out] at this; exact this) hg8.out
                     have m3 := hn8.c3
                     have g3 := Lib.frozen_of_heap hn8 3
                     clear ho8 hg8 hn8))
                all_goals (
                  go_wp2
                  go_roundw
                  case rel => exact ⟨j + 1, z + 1, by omega, by go_num, by have := hz.out; show z + 1 = _; omega, Ak', ck', Av', cv', by rw [hks.out, hvs.out]; exact hS8⟩
                  case measure => (have := hz.out; simp [intOf]; omega)))
            · obtain rfl : sz = j := by omega
              have hzz := hz.out
              have hzb : z ≤ 100000 := by omega
              have HZ := Lib.hid hzz
              clear hz
              by_cases hx : z < N
              · have hzi : (z : Int) < (N : Int) := by omega
                have hsm : sz = mm := HSZX.out (by omega)
                have hzm : ¬ (z : Int) < (y : Int) + (mm : Int) := by omega
                clear hzz hsm
                rw [List.take_of_length_le (by rw [HLK.out.1]; exact Nat.le_refl _), List.take_of_length_le (by rw [HLK.out.2]; exact Nat.le_refl _)] at hS
                obtain ⟨n0, n1, n2, n3⟩ := (And.intro hS.node.c0 (And.intro hS.node.c1 (And.intro hS.node.c2 hS.node.c3)))
                have hNI : NodIn wr (nodB17 tree leaf mm li k) Ak sz ck Av sz cv := hS.nodin HT.out (NEB.out k).1 (NEB.out k).2
                have HNI := Lib.hid hNI
                have HNode := Lib.hid hS.node
                have HR1 := Lib.hid (HRk.out.later hS.bel)
                have hpw := HRk.out.hp
                have how := Lib.hid HRk.out.olt
                have hsW := HRk.out.fr.size
                have hsWa := hS.bel.size
                have hKN := Newer.of_own hS.ok
                have HKN := Lib.hid hKN
                have PTk := Lib.hid (fun W h => PT.out W k hlt Ak sz ck Av cv h)
                have LYk := Lib.hid (fun W A5 c5 h1 h2 => LY.out W k A5 c5 bu u9 (upL17 mm li bs ti k) hlt h1 h2)
                have BYk := Lib.hid (fun W => BY.out W nb hnb2)
                rw [HNB.out] at LYk
                have hup : (upL17 mm li bs ti k).length = k := upL17_length _ _ _ _ _
                obtain ⟨key0, hkey⟩ : ∃ key0, ((li.drop (k * mm)).headD (0, [], 0)).1 = key0 := ⟨_, rfl⟩
                obtain ⟨rr, hkk⟩ : ∃ rr, (nodB17 tree leaf mm li k).keys = key0 :: rr := by
                  have := el17_head (tree := tree) (leaf := leaf) (l := li) (m := mm) (k := k) (by omega) (by rw [HNG.out, HSZ.out]; exact hszp)
                  rw [hkey] at this
                  exact this
                have HKK := Lib.hid hkk
                clear hkk
                have hone : upL17 mm li bs ti (k + 1) = upL17 mm li bs ti k ++ [(key0, encN 4 nb, (nb : Int))] := by
                  rw [upL17_succ, upE17, HNB.out, Int.toNat_natCast]
                  rw [hkey]
                have HONE := Lib.hid hone
                have HUPL := Lib.hid hup
                clear hS hNI hone hup hKN PT LY BY
                obtain ⟨s9, hs9⟩ : ∃ s9 : ByteArray, (⟨(encN 4 nb).toArray⟩ : ByteArray) = s9 := ⟨_, rfl⟩
                have HS9 := Lib.hid hs9
                clear hs9
                have hdz : decide ((0 : Int) < (sz : Int)) = true := decide_eq_true (by omega)
                have hdz2 : decide (0 < sz) = true := decide_eq_true hszp
                have hszi : (0 : Int) < (sz : Int) := by omega
                go_wp2_with (first
                  | (go_at_call 36; (with_reducible refine (PTk.out _ HNI.out).mono ?_); rintro e w5 ⟨A5, c5, rfl, hB5, hb5⟩; have HB5 := Lib.hid hB5; have HR5 := Lib.hid (HR1.out.later hb5); have HN5 := Lib.hid (HNode.out.later hb5); have HI5 := Lib.hid (HNI.out.keys.below hb5); have hs5 := hb5.size; clear hB5 hb5)
                  | (go_at_call 37; (with_reducible refine (LYk.out _ _ _ HR5.out HB5.out).mono ?_); rintro e w6 ⟨rfl, HR6, HF6⟩; have hb7 : Below w6.heap.size w6 (w6.alloc (.cells #[.slice none 0 0, .int .i64 0] 33)) := (Below.refl _ _).alloc (Nat.le_refl _) _; have hf7 : FltAt (w6.alloc (.cells #[.slice none 0 0, .int .i64 0] 33)) w6.heap.size (.slice none 0 0) (.int .i64 0) := FltAt.new _ _ _; obtain ⟨⟨f0, f1⟩, _, _⟩ := hf7.cs; have HN6 : Hid (NodAt w6 wa.heap.size tree leaf (.slice Ak sz ck) (.slice Av sz cv)) := (HF6.out.block _ (block_lt HN5.out) (fun e => by have := how.out _ e.symm; omega) (fun e => by injection e; omega)).trans HN5.out; have HI6 : Hid (Ints w6 Ak sz ck (nodB17 tree leaf mm li k).keys) := HI5.out.fr17 (fun ad e => by have h1 := HKN.out ad e; exact ⟨fun e => by have := how.out _ e.symm; omega, fun e => by injection e; omega⟩) HF6.out; have HR7 := Lib.hid (HR6.out.later hb7); have HN7 := Lib.hid (HN6.out.later hb7); have HI7 := Lib.hid (HI6.out.below hb7); clear hf7 hb7)
                  | (go_at_call 38; (with_reducible refine (BYk.out _).mono ?_); rintro e w8 ⟨A9, c9, rfl, hB9, hb9⟩; have cv9 := run_str hB9; rw [HS9.out] at cv9; have HR8 := Lib.hid (HR7.out.later hb9); have HN8 := HN7.out.later hb9; have HI8 := HI7.out.below hb9; have hbx : Below w8.heap.size w8 (w8.alloc (.cells #[.int .i64 0, .string s9, .int .i64 (nb : Int)] 57)) := (Below.refl _ _).alloc (Nat.le_refl _) _; have m2 := (HN8.later hbx).c2; rw [HKK.out] at HI8; obtain ⟨bk, ok, hAk, _, hck⟩ := (HI8.below hbx).row.lit (by rw [i64s_length]; simp); have hc0 : (w8.alloc (.cells #[.int .i64 0, .string s9, .int .i64 (nb : Int)] 57)).cell? ⟨bk, ok, none⟩ = some (.int .i64 key0) := (by simpa using hck 0 _ rfl); subst hAk; clear hck; have hbx2 : Below w8.heap.size w8 ((w8.alloc (.cells #[.int .i64 key0, .string s9, .int .i64 (nb : Int)] 57)).alloc (.cells #[.int .i64 key0, .string s9, .int .i64 (nb : Int)] 57)) := ((Below.refl _ _).alloc (Nat.le_refl _) _).alloc (by simp) _; have HR9 := Lib.hid (HR8.out.later hbx2); have hEx := EntAt.new w8 key0 s9 (nb : Int); obtain ⟨x0, x1, x2⟩ := hEx.cs; have hrow9 : Row ((w8.alloc (.cells #[.int .i64 key0, .string s9, .int .i64 (nb : Int)] 57)).alloc (.cells #[.int .i64 key0, .string s9, .int .i64 (nb : Int)] 57)) (some ⟨w8.heap.size + 1, 0, none⟩) [.int .i64 key0, .string s9, .int .i64 (nb : Int)] := Row.of_block (t := 57) (fr := (0, 0)) (by have := heap_alloc_new (w8.alloc (.cells #[.int .i64 key0, .string s9, .int .i64 (nb : Int)] 57)) (.cells #[.int .i64 key0, .string s9, .int .i64 (nb : Int)] 57); rw [World.size_alloc] at this; exact this); have HROW := Lib.hid hrow9; clear hB9 hb9 HN8 HI8 hbx hbx2 hEx hrow9)
                  | (at_builtin; refine wpList_append_liesG ((w8.alloc (.cells #[.int .i64 key0, .string s9, .int .i64 (nb : Int)] 57)).alloc (.cells #[.int .i64 key0, .string s9, .int .i64 (nb : Int)] 57)) rfl (.tmp 112) (.tmp 114) 22 rfl bu 57 3 (.agg #[.int .i64 0, .string ByteArray.empty, .int .i64 0]) 32 Tryz.underlying22 info_ent17 rfl (by omega) u9 (upL17 mm li bs ti k).length (entC (upL17 mm li bs ti k)) rfl HR9.out.up HR9.out.sz ⟨w8.heap.size + 1, 0, none⟩ [.int .i64 key0, .string s9, .int .i64 (nb : Int)] 1 1 (by first | rfl | (rw [World.size_alloc]; rfl)) rfl HROW.out (by simp [Value.oneCell']) (by omega) (by rw [HUPL.out]; omega) (by omega) ?_; intro gg cap9 w9 hown9 hg9 hat9; have HR10 : Hid (Ru17 w w9 q bs base p m B v (ti + (k + 1)) (levW17 q tree leaf mm li bs ti (k + 1) Li) A3 N c3 li bu (.slice (some ⟨gg, 0, none⟩) ((upL17 mm li bs ti k).length + 1) cap9) (upL17 mm li bs ti (k + 1))) := (HR9.out.grew (lu' := upL17 mm li bs ti (k + 1)) (by have h9 := hown9.out; rw [HONE.out, entC_snoc, List.length_append]; have e9 : entC [(key0, encN 4 nb, (nb : Int))] = [.int .i64 key0, .string s9, .int .i64 (nb : Int)] := (by rw [← HS9.out]; rfl); rw [e9]; exact h9) hg9.out); clear hown9 hg9 hat9 HR9 HROW))
                go_roundw
                case rel => exact ⟨k + 1, y + mm, by omega, by go_num, by show y + mm = _; rw [Nat.succ_mul, ← hy.out], HR10.out⟩
                case measure => simp [intOf]; omega
              · have hzi : ¬ (z : Int) < (N : Int) := by omega
                clear hzz
                rw [List.take_of_length_le (by rw [HLK.out.1]; exact Nat.le_refl _), List.take_of_length_le (by rw [HLK.out.2]; exact Nat.le_refl _)] at hS
                obtain ⟨n0, n1, n2, n3⟩ := (And.intro hS.node.c0 (And.intro hS.node.c1 (And.intro hS.node.c2 hS.node.c3)))
                have hNI : NodIn wr (nodB17 tree leaf mm li k) Ak sz ck Av sz cv := hS.nodin HT.out (NEB.out k).1 (NEB.out k).2
                have HNI := Lib.hid hNI
                have HNode := Lib.hid hS.node
                have HR1 := Lib.hid (HRk.out.later hS.bel)
                have hpw := HRk.out.hp
                have how := Lib.hid HRk.out.olt
                have hsW := HRk.out.fr.size
                have hsWa := hS.bel.size
                have hKN := Newer.of_own hS.ok
                have HKN := Lib.hid hKN
                have PTk := Lib.hid (fun W h => PT.out W k hlt Ak sz ck Av cv h)
                have LYk := Lib.hid (fun W A5 c5 h1 h2 => LY.out W k A5 c5 bu u9 (upL17 mm li bs ti k) hlt h1 h2)
                have BYk := Lib.hid (fun W => BY.out W nb hnb2)
                rw [HNB.out] at LYk
                have hup : (upL17 mm li bs ti k).length = k := upL17_length _ _ _ _ _
                obtain ⟨key0, hkey⟩ : ∃ key0, ((li.drop (k * mm)).headD (0, [], 0)).1 = key0 := ⟨_, rfl⟩
                obtain ⟨rr, hkk⟩ : ∃ rr, (nodB17 tree leaf mm li k).keys = key0 :: rr := by
                  have := el17_head (tree := tree) (leaf := leaf) (l := li) (m := mm) (k := k) (by omega) (by rw [HNG.out, HSZ.out]; exact hszp)
                  rw [hkey] at this
                  exact this
                have HKK := Lib.hid hkk
                clear hkk
                have hone : upL17 mm li bs ti (k + 1) = upL17 mm li bs ti k ++ [(key0, encN 4 nb, (nb : Int))] := by
                  rw [upL17_succ, upE17, HNB.out, Int.toNat_natCast]
                  rw [hkey]
                have HONE := Lib.hid hone
                have HUPL := Lib.hid hup
                clear hS hNI hone hup hKN PT LY BY
                obtain ⟨s9, hs9⟩ : ∃ s9 : ByteArray, (⟨(encN 4 nb).toArray⟩ : ByteArray) = s9 := ⟨_, rfl⟩
                have HS9 := Lib.hid hs9
                clear hs9
                have hdz : decide ((0 : Int) < (sz : Int)) = true := decide_eq_true (by omega)
                have hdz2 : decide (0 < sz) = true := decide_eq_true hszp
                have hszi : (0 : Int) < (sz : Int) := by omega
                go_wp2_with (first
                  | (go_at_call 36; (with_reducible refine (PTk.out _ HNI.out).mono ?_); rintro e w5 ⟨A5, c5, rfl, hB5, hb5⟩; have HB5 := Lib.hid hB5; have HR5 := Lib.hid (HR1.out.later hb5); have HN5 := Lib.hid (HNode.out.later hb5); have HI5 := Lib.hid (HNI.out.keys.below hb5); have hs5 := hb5.size; clear hB5 hb5)
                  | (go_at_call 37; (with_reducible refine (LYk.out _ _ _ HR5.out HB5.out).mono ?_); rintro e w6 ⟨rfl, HR6, HF6⟩; have hb7 : Below w6.heap.size w6 (w6.alloc (.cells #[.slice none 0 0, .int .i64 0] 33)) := (Below.refl _ _).alloc (Nat.le_refl _) _; have hf7 : FltAt (w6.alloc (.cells #[.slice none 0 0, .int .i64 0] 33)) w6.heap.size (.slice none 0 0) (.int .i64 0) := FltAt.new _ _ _; obtain ⟨⟨f0, f1⟩, _, _⟩ := hf7.cs; have HN6 : Hid (NodAt w6 wa.heap.size tree leaf (.slice Ak sz ck) (.slice Av sz cv)) := (HF6.out.block _ (block_lt HN5.out) (fun e => by have := how.out _ e.symm; omega) (fun e => by injection e; omega)).trans HN5.out; have HI6 : Hid (Ints w6 Ak sz ck (nodB17 tree leaf mm li k).keys) := HI5.out.fr17 (fun ad e => by have h1 := HKN.out ad e; exact ⟨fun e => by have := how.out _ e.symm; omega, fun e => by injection e; omega⟩) HF6.out; have HR7 := Lib.hid (HR6.out.later hb7); have HN7 := Lib.hid (HN6.out.later hb7); have HI7 := Lib.hid (HI6.out.below hb7); clear hf7 hb7)
                  | (go_at_call 38; (with_reducible refine (BYk.out _).mono ?_); rintro e w8 ⟨A9, c9, rfl, hB9, hb9⟩; have cv9 := run_str hB9; rw [HS9.out] at cv9; have HR8 := Lib.hid (HR7.out.later hb9); have HN8 := HN7.out.later hb9; have HI8 := HI7.out.below hb9; have hbx : Below w8.heap.size w8 (w8.alloc (.cells #[.int .i64 0, .string s9, .int .i64 (nb : Int)] 57)) := (Below.refl _ _).alloc (Nat.le_refl _) _; have m2 := (HN8.later hbx).c2; rw [HKK.out] at HI8; obtain ⟨bk, ok, hAk, _, hck⟩ := (HI8.below hbx).row.lit (by rw [i64s_length]; simp); have hc0 : (w8.alloc (.cells #[.int .i64 0, .string s9, .int .i64 (nb : Int)] 57)).cell? ⟨bk, ok, none⟩ = some (.int .i64 key0) := (by simpa using hck 0 _ rfl); subst hAk; clear hck; have hbx2 : Below w8.heap.size w8 ((w8.alloc (.cells #[.int .i64 key0, .string s9, .int .i64 (nb : Int)] 57)).alloc (.cells #[.int .i64 key0, .string s9, .int .i64 (nb : Int)] 57)) := ((Below.refl _ _).alloc (Nat.le_refl _) _).alloc (by simp) _; have HR9 := Lib.hid (HR8.out.later hbx2); have hEx := EntAt.new w8 key0 s9 (nb : Int); obtain ⟨x0, x1, x2⟩ := hEx.cs; have hrow9 : Row ((w8.alloc (.cells #[.int .i64 key0, .string s9, .int .i64 (nb : Int)] 57)).alloc (.cells #[.int .i64 key0, .string s9, .int .i64 (nb : Int)] 57)) (some ⟨w8.heap.size + 1, 0, none⟩) [.int .i64 key0, .string s9, .int .i64 (nb : Int)] := Row.of_block (t := 57) (fr := (0, 0)) (by have := heap_alloc_new (w8.alloc (.cells #[.int .i64 key0, .string s9, .int .i64 (nb : Int)] 57)) (.cells #[.int .i64 key0, .string s9, .int .i64 (nb : Int)] 57); rw [World.size_alloc] at this; exact this); have HROW := Lib.hid hrow9; clear hB9 hb9 HN8 HI8 hbx hbx2 hEx hrow9)
                  | (at_builtin; refine wpList_append_liesG ((w8.alloc (.cells #[.int .i64 key0, .string s9, .int .i64 (nb : Int)] 57)).alloc (.cells #[.int .i64 key0, .string s9, .int .i64 (nb : Int)] 57)) rfl (.tmp 112) (.tmp 114) 22 rfl bu 57 3 (.agg #[.int .i64 0, .string ByteArray.empty, .int .i64 0]) 32 Tryz.underlying22 info_ent17 rfl (by omega) u9 (upL17 mm li bs ti k).length (entC (upL17 mm li bs ti k)) rfl HR9.out.up HR9.out.sz ⟨w8.heap.size + 1, 0, none⟩ [.int .i64 key0, .string s9, .int .i64 (nb : Int)] 1 1 (by first | rfl | (rw [World.size_alloc]; rfl)) rfl HROW.out (by simp [Value.oneCell']) (by omega) (by rw [HUPL.out]; omega) (by omega) ?_; intro gg cap9 w9 hown9 hg9 hat9; have HR10 : Hid (Ru17 w w9 q bs base p m B v (ti + (k + 1)) (levW17 q tree leaf mm li bs ti (k + 1) Li) A3 N c3 li bu (.slice (some ⟨gg, 0, none⟩) ((upL17 mm li bs ti k).length + 1) cap9) (upL17 mm li bs ti (k + 1))) := (HR9.out.grew (lu' := upL17 mm li bs ti (k + 1)) (by have h9 := hown9.out; rw [HONE.out, entC_snoc, List.length_append]; have e9 : entC [(key0, encN 4 nb, (nb : Int))] = [.int .i64 key0, .string s9, .int .i64 (nb : Int)] := (by rw [← HS9.out]; rfl); rw [e9]; exact h9) hg9.out); clear hown9 hg9 hat9 HR9 HROW))
                go_roundw
                case rel => exact ⟨k + 1, y + mm, by omega, by go_num, by show y + mm = _; rw [Nat.succ_mul, ← hy.out], HR10.out⟩
                case measure => simp [intOf]; omega
        · have hN0 : Hid (N = 0) := by show _ = _; omega
          have hk0 : k = 0 := by omega
          have hy0 : y = 0 := by rw [hy.out, hk0]; simp
          clear hk0
          have hd1 : decide ((y : Int) < (N : Int)) = false := decide_eq_false (by omega)
          have hd2 : decide (y < N) = false := decide_eq_false hyN
          have hd3 : ((y : Int) == 0) = true := by rw [hy0]; rfl
          obtain ⟨sz, hszd⟩ : ∃ sz, el15 N mm k = sz := ⟨_, rfl⟩
          have hsz0 : sz = 0 := by have := hN0.out; rw [← hszd]; unfold el15; omega
          have HY0 := Lib.hid hy0
          have HSZ0 := Lib.hid hsz0
          clear hy0 hsz0
          have hsz : el15 N mm k = sz := hszd
          rw [hsz] at hlen2
          obtain ⟨hlk, hlv⟩ := hlen2
          have HLK := Lib.hid (And.intro hlk hlv)
          have HNB := Lib.hid hnb1
          have HSZ := Lib.hid hsz
          have M0 := Lib.hid (MsN.start wa tree leaf)
          clear hlk hlv hnb1 hsz hszd
          go_wp2
          go_loopw [13] (fun v13 wr => ∃ j z : Nat, j ≤ sz ∧ v13 = .int .i64 z ∧ Hid (z = y + j) ∧ Hid (∃ Ak ck Av cv, MsN wa wr tree leaf j Ak ck j Av cv ((nodB17 tree leaf mm li k).keys.take j) ((nodB17 tree leaf mm li k).vals.take j))) (fun v13 _ => y + sz - (intOf v13).toNat)
          case atStart => exact ⟨0, y, by omega, rfl, rfl, none, 0, none, 0, by simpa using M0.out⟩
          case round =>
            clear M0
            obtain ⟨j, z, hj, rfl, hz, Ak, ck, Av, cv, hS⟩ := hrel
            obtain rfl : sz = j := by have := HSZ0.out; omega
            have hzi : ¬ (z : Int) < (N : Int) := by have hzz := hz.out; omega
            have hsz0 := HSZ0.out
            rw [List.take_of_length_le (by rw [HLK.out.1]; exact Nat.le_refl _), List.take_of_length_le (by rw [HLK.out.2]; exact Nat.le_refl _)] at hS
            obtain ⟨n0, n1, n2, n3⟩ := (And.intro hS.node.c0 (And.intro hS.node.c1 (And.intro hS.node.c2 hS.node.c3)))
            have hNI : NodIn wr (nodB17 tree leaf mm li k) Ak sz ck Av sz cv := hS.nodin HT.out (NEB.out k).1 (NEB.out k).2
            have HNI := Lib.hid hNI
            have HNode := Lib.hid hS.node
            have HR1 := Lib.hid (HRk.out.later hS.bel)
            have hpw := HRk.out.hp
            have how := Lib.hid HRk.out.olt
            have hsW := HRk.out.fr.size
            have hsWa := hS.bel.size
            have hKN := Newer.of_own hS.ok
            have HKN := Lib.hid hKN
            have PTk := Lib.hid (fun W h => PT.out W k hlt Ak sz ck Av cv h)
            have LYk := Lib.hid (fun W A5 c5 h1 h2 => LY.out W k A5 c5 bu u9 (upL17 mm li bs ti k) hlt h1 h2)
            have BYk := Lib.hid (fun W => BY.out W nb hnb2)
            rw [HNB.out] at LYk
            have hup : (upL17 mm li bs ti k).length = k := upL17_length _ _ _ _ _
            have hkey : ((li.drop (k * mm)).headD (0, [], 0)).1 = 0 := by
              have : li = [] := List.eq_nil_of_length_eq_zero (by rw [HNG.out]; exact hN0.out)
              rw [this]; simp
            have hone : upL17 mm li bs ti (k + 1) = upL17 mm li bs ti k ++ [(0, encN 4 nb, (nb : Int))] := by
              rw [upL17_succ, upE17, HNB.out, Int.toNat_natCast]
              rw [hkey]
            have HONE := Lib.hid hone
            have HUPL := Lib.hid hup
            clear hS hNI hone hup hKN PT LY BY
            obtain ⟨s9, hs9⟩ : ∃ s9 : ByteArray, (⟨(encN 4 nb).toArray⟩ : ByteArray) = s9 := ⟨_, rfl⟩
            have HS9 := Lib.hid hs9
            clear hs9
            clear hsz0
            have hdz : decide ((0 : Int) < (sz : Int)) = false := decide_eq_false (by have := HSZ0.out; omega)
            have hdz2 : decide (0 < sz) = false := decide_eq_false (by have := HSZ0.out; omega)
            go_wp2_with (first
              | (go_at_call 36; (with_reducible refine (PTk.out _ HNI.out).mono ?_); rintro e w5 ⟨A5, c5, rfl, hB5, hb5⟩; have HB5 := Lib.hid hB5; have HR5 := Lib.hid (HR1.out.later hb5); have HN5 := Lib.hid (HNode.out.later hb5); have HI5 := Lib.hid (HNI.out.keys.below hb5); have hs5 := hb5.size; clear hB5 hb5)
              | (go_at_call 37; (with_reducible refine (LYk.out _ _ _ HR5.out HB5.out).mono ?_); rintro e w6 ⟨rfl, HR6, HF6⟩; have hb7 : Below w6.heap.size w6 (w6.alloc (.cells #[.slice none 0 0, .int .i64 0] 33)) := (Below.refl _ _).alloc (Nat.le_refl _) _; have hf7 : FltAt (w6.alloc (.cells #[.slice none 0 0, .int .i64 0] 33)) w6.heap.size (.slice none 0 0) (.int .i64 0) := FltAt.new _ _ _; obtain ⟨⟨f0, f1⟩, _, _⟩ := hf7.cs; have HN6 : Hid (NodAt w6 wa.heap.size tree leaf (.slice Ak sz ck) (.slice Av sz cv)) := (HF6.out.block _ (block_lt HN5.out) (fun e => by have := how.out _ e.symm; omega) (fun e => by injection e; omega)).trans HN5.out; have HI6 : Hid (Ints w6 Ak sz ck (nodB17 tree leaf mm li k).keys) := HI5.out.fr17 (fun ad e => by have h1 := HKN.out ad e; exact ⟨fun e => by have := how.out _ e.symm; omega, fun e => by injection e; omega⟩) HF6.out; have HR7 := Lib.hid (HR6.out.later hb7); have HN7 := Lib.hid (HN6.out.later hb7); have HI7 := Lib.hid (HI6.out.below hb7); clear hf7 hb7)
              | (go_at_call 38; (with_reducible refine (BYk.out _).mono ?_); rintro e w8 ⟨A9, c9, rfl, hB9, hb9⟩; have cv9 := run_str hB9; rw [HS9.out] at cv9; have HR8 := Lib.hid (HR7.out.later hb9); have HN8 := HN7.out.later hb9; have HI8 := HI7.out.below hb9; have hbx : Below w8.heap.size w8 (w8.alloc (.cells #[.int .i64 0, .string s9, .int .i64 (nb : Int)] 57)) := (Below.refl _ _).alloc (Nat.le_refl _) _; have m2 := (HN8.later hbx).c2; have hbx2 : Below w8.heap.size w8 ((w8.alloc (.cells #[.int .i64 0, .string s9, .int .i64 (nb : Int)] 57)).alloc (.cells #[.int .i64 0, .string s9, .int .i64 (nb : Int)] 57)) := ((Below.refl _ _).alloc (Nat.le_refl _) _).alloc (by simp) _; have HR9 := Lib.hid (HR8.out.later hbx2); have hEx := EntAt.new w8 0 s9 (nb : Int); obtain ⟨x0, x1, x2⟩ := hEx.cs; have hrow9 : Row ((w8.alloc (.cells #[.int .i64 0, .string s9, .int .i64 (nb : Int)] 57)).alloc (.cells #[.int .i64 0, .string s9, .int .i64 (nb : Int)] 57)) (some ⟨w8.heap.size + 1, 0, none⟩) [.int .i64 0, .string s9, .int .i64 (nb : Int)] := Row.of_block (t := 57) (fr := (0, 0)) (by have := heap_alloc_new (w8.alloc (.cells #[.int .i64 0, .string s9, .int .i64 (nb : Int)] 57)) (.cells #[.int .i64 0, .string s9, .int .i64 (nb : Int)] 57); rw [World.size_alloc] at this; exact this); have HROW := Lib.hid hrow9; clear hB9 hb9 HN8 HI8 hbx hbx2 hEx hrow9)
              | (at_builtin; refine wpList_append_liesG ((w8.alloc (.cells #[.int .i64 0, .string s9, .int .i64 (nb : Int)] 57)).alloc (.cells #[.int .i64 0, .string s9, .int .i64 (nb : Int)] 57)) rfl (.tmp 112) (.tmp 114) 22 rfl bu 57 3 (.agg #[.int .i64 0, .string ByteArray.empty, .int .i64 0]) 32 Tryz.underlying22 info_ent17 rfl (by omega) u9 (upL17 mm li bs ti k).length (entC (upL17 mm li bs ti k)) rfl HR9.out.up HR9.out.sz ⟨w8.heap.size + 1, 0, none⟩ [.int .i64 0, .string s9, .int .i64 (nb : Int)] 1 1 (by first | rfl | (rw [World.size_alloc]; rfl)) rfl HROW.out (by simp [Value.oneCell']) (by omega) (by rw [HUPL.out]; omega) (by omega) ?_; intro gg cap9 w9 hown9 hg9 hat9; have HR10 : Hid (Ru17 w w9 q bs base p m B v (ti + (k + 1)) (levW17 q tree leaf mm li bs ti (k + 1) Li) A3 N c3 li bu (.slice (some ⟨gg, 0, none⟩) ((upL17 mm li bs ti k).length + 1) cap9) (upL17 mm li bs ti (k + 1))) := (HR9.out.grew (lu' := upL17 mm li bs ti (k + 1)) (by have h9 := hown9.out; rw [HONE.out, entC_snoc, List.length_append]; have e9 : entC [(0, encN 4 nb, (nb : Int))] = [.int .i64 0, .string s9, .int .i64 (nb : Int)] := (by rw [← HS9.out]; rfl); rw [e9]; exact h9) hg9.out); clear hown9 hg9 hat9 HR9 HROW))
            go_roundw
            case rel => exact ⟨k + 1, y + mm, by omega, by go_num, by show y + mm = _; rw [Nat.succ_mul, ← hy.out], HR10.out⟩
            case measure => simp [intOf]; omega
      · obtain rfl : k = F := by omega
        have hyM : y = FM := by rw [hy.out, HFM.out]
        have hyN : ¬ (y : Int) < (N : Int) := by omega
        have hyN2 : ¬ y < N := by omega
        have hy0 : ((y : Int) == 0) = false := by simp; omega
        have hd1 : decide ((y : Int) < (N : Int)) = false := decide_eq_false hyN
        have hd2 : decide (y < N) = false := decide_eq_false hyN2
        obtain ⟨A4, c4, rfl, hnx⟩ := hRk.out.next
        have hul : (upL17 mm li bs ti k).length = k := upL17_length _ _ _ _ _
        have HNXk := Lib.hid HNX.out
        have h1i : 1 ≤ i + 1 := by omega
        have hone := LONE.out _ _ _ _ HNXk.out h1i
        have hiK2 := HiK.out
        have hbsz := HBS.out
        rw [hul] at hone hnx
        simp only [hul]
        have HUL := Lib.hid hul
        have HNxt := Lib.hid hnx
        have HY := Lib.hid hyM
        clear hyM hul hnx hRk
        by_cases hF1 : k = 1
        · have hlast := LAST.out _ _ _ _ HNXk.out (hone.1 hF1)
          have HF1 := Lib.hid hF1
          have hlen0 : 0 < (upL17 mm li bs ti k).length := by rw [HUL.out]; omega
          obtain ⟨b, off, hA, e0, e1, e2⟩ := HNxt.out.ens.at_ (k := 0) (by omega)
          have e3 : (upL17 mm li bs ti k)[0].2.2 = bs.getD (ti + k - 1) 0 := by
            simp only [upL17, List.getElem_map, List.getElem_range, upE17]
            rw [hF1]
            simp
          rw [e3] at e2
          simp only [Nat.zero_mul, Nat.zero_add] at e2
          subst hA
          have hone1 : ((k : Int) == 1) = true := by rw [hF1]; rfl
          have hk0 : 0 < k := by omega
          have hk0i : (0 : Int) < (k : Int) := by omega
          obtain ⟨⟨y0, y1⟩, y2, y3⟩ := HNxt.out.res.cs
          obtain ⟨R1, R2, R3⟩ := R
          injection hlast with hl1 hl2
          injection hl2 with hl2 hl3
          subst hl1 hl2 hl3
          have HRT := Lib.hid HNxt.out.ra
          have HFR := Lib.hid HNxt.out.fr
          have HRES := Lib.hid HNxt.out.res
          have HPW := Lib.hid HNxt.out.hp
          clear hF1 hone hlen0 e3 e0 e1
          go_wp2
          refine bodyPost_ret (blk_resT Tryz.results12 _ _ rfl (HRES.out.store _ _).load) rfl ?_
          exact ⟨rfl, HRT.out.two HPW.out _ _, HFR.out.two (Nat.le_refl _) _ _⟩
        · have hnK : i + 1 < K := by
            have : ¬ i + 1 = K := fun e => hF1 (hone.2 e)
            omega
          have hone1 : ((k : Int) == 1) = false := by simp; omega
          have hlt2 := FLT.out (by omega)
          go_wp2
          go_roundw
          case rel => exact ⟨i + 1, upL17 mm li bs ti k, ti + k, levW17 q tree leaf mm li bs ti k Li, A4, c4, by rw [HUL.out], by rw [decide_eq_false (by omega)], hnK, HNXk.out, HEI.out.upL17 _ _ _ _, by rw [HUL.out]; exact HNxt.out⟩
          case measure => (have := HNG.out; simp only [lenV]; omega)
end
end Go.Proofs.YtnjlganofjkpfaaGreatDoor

/-
  Layer 17: both sides in one world.
-/
namespace Go.Proofs.YtnjlganofjkpfaaGreatDoor
open Go.RowKit
set_option linter.unusedVariables false
set_option linter.unusedSimpArgs false

section
variable {w : World} {q : Nat} {tree : Int} {l : List Ent17} {bs : List Int} {t : Nat} {L : List UInt8} {base p m B : Nat} {v : Value} {A2 : Option Addr} {n2 c2 : Nat}
theorem refTree_any17 (h : RAImg w base p m B v (bs.drop t) t (blks L q)) (hE : Ens w A2 n2 c2 l) (hfar : 0 < n2 → ∀ ad, A2 = some ad → some ad.block ≠ v.ownBlock ∧ ad.block ≠ p) (hEB : EntB l) (hB : Bs17 q bs) (hL : L.length = q * 256) (ht : i64b tree) (hbs : bs.length ≤ 100000) (htl : t ≤ bs.length) :
    Calls Tryz.prog 12 #[.pointer (some ⟨p, 0, none⟩), .int .i64 tree, .slice A2 n2 c2] w fun e w' => e = .returned (.tuple #[.int .i64 (outB17 q tree bs l t L).root, .agg #[.slice none 0 0, .int .i64 (outB17 q tree bs l t L).x]]) ∧ RAImg w' base p m B v (bs.drop (outB17 q tree bs l t L).t) (outB17 q tree bs l t L).t (blks (outB17 q tree bs l t L).L q) ∧ Fr2 w w' v.ownBlock (some p) := by
  cases hr : rightB17 tree l with
  | false =>
    rw [outB17_arg hr]
    exact (refTree_bad17 h hE hEB ht hr).mono fun e w' ⟨h1, h2⟩ => ⟨h1, h.later h2, Fr2.of_below h2 _ _⟩
  | true =>
    by_cases hs : ((bs.length - t : Nat) : Int) < (lev15 l.length (capN (widN tree true))).sum
    · rw [outB17_space hr hs]
      exact (refTree_space17 h hE hEB ht hr hs).mono fun e w' ⟨h1, h2⟩ => ⟨h1, h.later h2, Fr2.of_below h2 _ _⟩
    · rw [outB17_good hr (by omega)]
      exact refTree_good17 h hE hfar hEB hB hL ht hbs htl hr (by omega)
end

/-- both sides: the program's allocator and image lie below the document's -/
structure Bm17 (w W : World) (q : Nat) (bs : List Int) (base p m g : Nat) (A : Option Addr) (n c t : Nat) (L : List UInt8) (base2 p2 m2 : Nat) (v : Value) (t2 : Nat) (L2 : List UInt8) : Prop where
  bel : Below w.heap.size w W
  ai : AImg W base p m w.heap.size g A n c bs t L
  ri : RAImg W base2 p2 m2 w.heap.size v (bs.drop t2) t2 (blks L2 q)
  lo : w.heap.size ≤ base
  sep : p < m2
  len : L.length = q * 256
  len2 : L2.length = q * 256
section
variable {w W W' : World} {q : Nat} {bs : List Int} {base p m g : Nat} {A : Option Addr} {n c t : Nat} {L : List UInt8} {base2 p2 m2 : Nat} {v : Value} {t2 : Nat} {L2 : List UInt8}
theorem Bm17.later (h : Bm17 w W q bs base p m g A n c t L base2 p2 m2 v t2 L2) (hb : Below W.heap.size W W') : Bm17 w W' q bs base p m g A n c t L base2 p2 m2 v t2 L2 :=
  ⟨h.bel.trans (hb.mono h.bel.size), h.ai.later hb, h.ri.later hb, h.lo, h.sep, h.len, h.len2⟩
theorem Bm17.nums (h : Bm17 w W q bs base p m g A n c t L base2 p2 m2 v t2 L2) : w.heap.size ≤ g ∧ w.heap.size ≤ p ∧ g < p ∧ p < m2 ∧ m2 < base2 ∧ base2 ≤ p2 ∧ (∀ k, v.ownBlock = some k → m2 < k ∧ k < base2) := by
  have h1 := h.ai.img.bg
  have h2 := h.ai.alc.bp
  have h3 := h.ai.glt
  have h4 := h.lo
  have h5 := h.sep
  have h6 := h.ri.mlt
  have h7 := h.ri.ra.1
  exact ⟨h1, by omega, by omega, h5, h6, h7, h.ri.own⟩
theorem Bm17.prog (h : Bm17 w W q bs base p m g A n c t L base2 p2 m2 v t2 L2) {t' : Nat} {L' : List UInt8} (ha : AImg W' base p m w.heap.size g A n c bs t' L') (hL : L'.length = q * 256) (hf : Fr2 W W' (some g) (some p)) : Bm17 w W' q bs base p m g A n c t' L' base2 p2 m2 v t2 L2 := by
  obtain ⟨a1, a2, a3, a4, a5, a6, a7⟩ := h.nums
  have e1 : ∀ k, k < W.heap.size → p < k → W'.heap[k]? = W.heap[k]? := fun k h1 h2 => hf.block k h1 (fun e => by injection e; omega) (fun e => by injection e; omega)
  refine ⟨⟨hf.os.trans h.bel.os, hf.tape.trans h.bel.tape, hf.output.trans h.bel.output, Nat.le_trans h.bel.size hf.size, fun k hk => (hf.block k (Nat.lt_of_lt_of_le hk h.bel.size) (fun e => by injection e; omega) (fun e => by injection e; omega)).trans (h.bel.block k hk)⟩, ha, ⟨h.ri.ra.fr2 hf (fun k e => by injection e; omega) (fun k e => by injection e; omega), h.ri.ri.mov (e1 m2 h.ri.ri.plt a4) (fun k e => e1 k (h.ri.ri.own_of k e).2 (by have := a7 k e; omega)), h.ri.mlt, h.ri.own⟩, h.lo, h.sep, hL, h.len2⟩
theorem Bm17.ref (h : Bm17 w W q bs base p m g A n c t L base2 p2 m2 v t2 L2) {t' : Nat} {L' : List UInt8} (ha : RAImg W' base2 p2 m2 w.heap.size v (bs.drop t') t' (blks L' q)) (hL : L'.length = q * 256) (hf : Fr2 W W' v.ownBlock (some p2)) : Bm17 w W' q bs base p m g A n c t L base2 p2 m2 v t' L' := by
  obtain ⟨a1, a2, a3, a4, a5, a6, a7⟩ := h.nums
  have hpl := h.ai.alc.plt
  have hb : Below m2 W W' := ⟨hf.os, hf.tape, hf.output, hf.size, fun k hk => hf.block k (Nat.lt_trans hk h.ri.ri.plt) (fun e => by have := a7 k e.symm; omega) (fun e => by injection e; omega)⟩
  refine ⟨h.bel.trans (hb.mono (by omega)), h.ai.keep17 hb a4, ha, h.lo, h.sep, h.len, hL⟩
theorem Bm17.tree {T : Int} {A2 : Option Addr} {n2 c2 : Nat} {l : List Ent17} (h : Bm17 w W q bs base p m g A n c t L base2 p2 m2 v t2 L2) (hE : Ens w A2 n2 c2 l) (hEB : EntB l) (hB : Bs17 q bs) (ht : i64b T) :
    Calls Tryz.prog 10 #[.pointer (some ⟨p, 0, none⟩), .int .i64 T, .slice A2 n2 c2] W fun e w' => e = .returned (.tuple #[.int .i64 (outB17 q T bs l t L).root, errV17 (outB17 q T bs l t L).x]) ∧ Bm17 w w' q bs base p m g A n c (outB17 q T bs l t L).t (outB17 q T bs l t L).L base2 p2 m2 v t2 L2 := by
  obtain ⟨a1, a2, a3, a4, a5, a6, a7⟩ := h.nums
  refine (Tree_any17 h.ai (hE.below h.bel) (fun h0 ad e => ?_) hEB hB h.len ht).mono ?_
  · have hl := hE.len
    obtain ⟨b', off', hA', hlt, _⟩ := hE.row.lit (by rw [entC_length]; omega)
    rw [hA'] at e
    injection e with e
    rw [← e]
    exact ⟨by show b' ≠ g; omega, by show b' ≠ p; omega⟩
  · rintro e w' ⟨h1, h2, h3⟩
    exact ⟨h1, h.prog h2 (outB17_length h.len) h3⟩
theorem Bm17.rtree {T : Int} {A2 : Option Addr} {n2 c2 : Nat} {l : List Ent17} (h : Bm17 w W q bs base p m g A n c t L base2 p2 m2 v t2 L2) (hE : Ens w A2 n2 c2 l) (hEB : EntB l) (hB : Bs17 q bs) (ht : i64b T) (hbs : bs.length ≤ 100000) (htl : t2 ≤ bs.length) :
    Calls Tryz.prog 12 #[.pointer (some ⟨p2, 0, none⟩), .int .i64 T, .slice A2 n2 c2] W fun e w' => e = .returned (.tuple #[.int .i64 (outB17 q T bs l t2 L2).root, .agg #[.slice none 0 0, .int .i64 (outB17 q T bs l t2 L2).x]]) ∧ Bm17 w w' q bs base p m g A n c t L base2 p2 m2 v (outB17 q T bs l t2 L2).t (outB17 q T bs l t2 L2).L := by
  obtain ⟨a1, a2, a3, a4, a5, a6, a7⟩ := h.nums
  refine (refTree_any17 h.ri (hE.below h.bel) (fun h0 ad e => ?_) hEB hB h.len2 ht hbs htl).mono ?_
  · have hl := hE.len
    obtain ⟨b', off', hA', hlt, _⟩ := hE.row.lit (by rw [entC_length]; omega)
    rw [hA'] at e
    injection e with e
    rw [← e]
    exact ⟨fun e => by have := a7 _ e.symm; have h9 : m2 < b' := this.1; omega, by show b' ≠ p2; omega⟩
  · rintro e w' ⟨h1, h2, h3⟩
    exact ⟨h1, h.ref h2 (outB17_length h.len2) h3⟩
end
theorem errV17_told (W : World) (x : Int) : ErrD16 W (errV17 x) [] x := by
  unfold errV17
  split
  · rename_i h; subst h; exact ErrD16.nil W
  · exact ErrD16.num W x

/-- what few answers -/
def sumW17 (l : List Ent17) : Nat → Int
  | 0 => 0
  | k + 1 => wrap64 (sumW17 l k + ((val17 l k).length : Int))
def fewB17 (l : List Ent17) : Bool := decide (l.length ≤ 500) && decide (sumW17 l l.length ≤ 13000)
set_option maxRecDepth 100000 in
set_option maxHeartbeats 800000 in
/-- are entries few? -/
theorem few_any17 {A2 : Option Addr} {n2 c2 : Nat} {l : List Ent17} (w : World) (hE : Ens w A2 n2 c2 l) : Calls Tryz.prog 5 #[.slice A2 n2 c2] w fun e w' => e = .returned (.bool (fewB17 l)) ∧ w = w' := by
  obtain rfl : n2 = l.length := hE.len.symm
  have hcap := hE.cap
  have hmost := hE.most
  have HE := Lib.hid hE
  have FB : Hid (fewB17 l = (decide (l.length ≤ 500) && decide (sumW17 l l.length ≤ 13000))) := rfl
  clear hE
  generalize fewB17 l = R at *
  generalize hN : l.length = N at *
  have HN := Lib.hid hN
  clear hN
  go_enter Tryz.func5, Tryz.ntmps5
  go_wp2
  go_loopw [3, 4] (fun s i wr => ∃ (k : Nat) (x : Int), k ≤ N ∧ k ≤ 501 ∧ i = .int .i64 k ∧ s = .int .i64 x ∧ Hid (x = sumW17 l k) ∧ w = wr) (fun _ i _ => N - (intOf i).toNat)
  case atStart => exact ⟨0, 0, by omega, by omega, rfl, rfl, rfl, rfl⟩
  case round =>
    obtain ⟨k, x, hk, hk5, rfl, rfl, hx, rfl⟩ := hrel
    by_cases hlt : k < N
    · have hlti : (k : Int) < (N : Int) := by omega
      by_cases h5 : k < 501
      · have h5i : (k : Int) < 501 := by omega
        obtain ⟨b, off, hA, _, c1, _⟩ := HE.out.at_ (k := k) hlt
        rw [← Nat.add_assoc] at c1
        subst hA
        have HS : Hid (wrap64 (x + ((val17 l k).length : Int)) = sumW17 l (k + 1)) := by rw [hx.out]; rfl
        rw [← val17_at (by rw [HN.out]; exact hlt)] at c1
        generalize val17 l k = vl at *
        have hsz : (⟨vl.toArray⟩ : ByteArray).size = vl.length := by simp [ByteArray.size]
        obtain ⟨y, hy⟩ : ∃ y : ByteArray, (⟨vl.toArray⟩ : ByteArray) = y := ⟨_, rfl⟩
        rw [hy] at c1 hsz
        clear hy
        go_wp2
        go_roundw
        case rel => exact ⟨k + 1, wrap64 (x + (vl.length : Int)), by omega, by omega, by go_num, rfl, HS, trivial⟩
        case measure => simp [intOf]; omega
      · have h5i : ¬ (k : Int) < 501 := by omega
        have hbig : ¬ (N : Int) ≤ 500 := by omega
        have hR : R = false := by rw [FB.out, decide_eq_false (show ¬ N ≤ 500 by omega)]; rfl
        subst hR
        go_wp2
        go_ret
        exact ⟨rfl, rfl⟩
    · have hlti : ¬ (k : Int) < (N : Int) := by omega
      have hkN : k = N := by omega
      by_cases hbig : (N : Int) ≤ 500
      · have hR : Hid (R = decide (x ≤ 13000)) := by show _ = _; rw [FB.out, decide_eq_true (show N ≤ 500 by omega), hx.out, hkN]; rfl
        clear hkN
        go_wp2
        all_goals go_ret
        all_goals exact ⟨by rw [hR.out]; rfl, rfl⟩
      · have hR : R = false := by rw [FB.out, decide_eq_false (show ¬ N ≤ 500 by omega)]; rfl
        subst hR
        clear hkN
        go_wp2
        go_ret
        exact ⟨rfl, rfl⟩
end Go.Proofs.YtnjlganofjkpfaaGreatDoor

/-
  The walk of BuildMakes.
-/
namespace Go.Proofs.YtnjlganofjkpfaaGreatDoor
open Go.RowKit
set_option linter.unusedVariables false
set_option linter.unusedSimpArgs false

theorem and17_127 (n : Int) : ∃ q : Nat, bits .and .i64 n 127 = (q : Int) ∧ q ≤ 127 := by
  have hm : (BitVec.ofInt 64 127).toNat = 2 ^ 7 - 1 := by decide
  have key : (BitVec.ofInt 64 n &&& BitVec.ofInt 64 127).toNat = (n % ((2 ^ 64 : Nat) : Int)).toNat % 2 ^ 7 := by
    rw [BitVec.toNat_and, BitVec.toNat_ofInt, hm, Nat.and_two_pow_sub_one_eq_mod]
  refine ⟨(BitVec.ofInt 64 n &&& BitVec.ofInt 64 127).toNat, ?_, by rw [key]; omega⟩
  show IntKind.i64.wrap ((BitVec.ofInt 64 n &&& BitVec.ofInt 64 127).toNat : Nat) = _
  rw [IntKind.wrap_i64, key]
  omega

/-- both sides made, or neither -/
def Nb17 (w W : World) (q : Nat) (f : Int) (va vc : Value) : Prop :=
  ((f < 1 ∨ (q : Int) < f) ∧ va = .pointer none ∧ vc = .pointer none ∧ Below w.heap.size w W) ∨
    (¬ (f < 1 ∨ (q : Int) < f) ∧ ∃ base p m g A n c base2 p2 m2 v, va = .pointer (some ⟨p, 0, none⟩) ∧ vc = .pointer (some ⟨p2, 0, none⟩) ∧ Bm17 w W q (seq16 f.toNat q) base p m g A n c 0 (zero17 (q * 256)) base2 p2 m2 v 0 (zero17 (q * 256)))
theorem Nb17.later {w W W' : World} {q : Nat} {f : Int} {va vc : Value} (h : Nb17 w W q f va vc) (hb : Below W.heap.size W W') : Nb17 w W' q f va vc := by
  rcases h with ⟨h1, h2, h3, h4⟩ | ⟨h1, base, p, m, g, A, n, c, base2, p2, m2, v, h2, h3, h4⟩
  · exact .inl ⟨h1, h2, h3, h4.trans (hb.mono h4.size)⟩
  · exact .inr ⟨h1, base, p, m, g, A, n, c, base2, p2, m2, v, h2, h3, h4.later hb⟩
theorem blks17_zero (q : Nat) : blks (zero17 (q * 256)) (q * 256 / 256) = blks (zero17 (q * 256)) q := by rw [Nat.mul_div_cancel _ (by omega)]
theorem refOf17 (q : Nat) (W : World) (hq : q ≤ 1000) : Calls Tryz.prog 8 #[.slice (some ⟨W.heap.size, 0, none⟩) (q * 256) (q * 256)] (W.alloc (.cells (u8s (zero17 (q * 256))).toArray 5)) fun e w' => ∃ m2 v, e = .returned (.pointer (some ⟨m2, 0, none⟩)) ∧ RImg w' W.heap.size m2 v (blks (zero17 (q * 256)) q) ∧ Below W.heap.size W w' := by
  have hb : Below W.heap.size W (W.alloc (.cells (u8s (zero17 (q * 256))).toArray 5)) := (Below.refl _ _).alloc (Nat.le_refl _) _
  refine (refOf_anyF _ (q * 256) (q * 256) _ _ (made17_bytes W (q * 256) (by omega)) (by omega)).mono ?_
  rintro e w' ⟨v, h1, h2, h3⟩
  rw [blks17_zero] at h2
  exact ⟨_, v, h1, ⟨hb.size, h2.hp, h2.own⟩, hb.trans (h3.mono hb.size)⟩

set_option maxRecDepth 100000 in
set_option maxHeartbeats 1600000 in
theorem makes17_many (blocks from_ tree : Int) {A2 : Option Addr} {n2 c2 : Nat} {l : List Ent17} (w : World) (hE : Ens w A2 n2 c2 l) (hf : fewB17 l = false) :
    Calls Tryz.prog 3 #[.int .i64 blocks, .int .i64 from_, .int .i64 tree, .slice A2 n2 c2] w fun e w' => e = .returned (.bool true) ∧ Below w.heap.size w w' := by
  have FW := Lib.hid (few_any17 w hE)
  rw [hf] at FW
  have LV := Lib.hid (lives17_any w)
  clear hE hf
  go_enter Tryz.func3, Tryz.ntmps3
  go_wp2_with (first
    | (go_at_call 5; (with_reducible refine (FW.out).mono ?_); rintro e w1 ⟨rfl, rfl⟩)
    | (go_at_call 6; (with_reducible refine (LV.out).mono ?_); rintro e w2 ⟨rfl, hb2⟩))
  go_ret
  exact ⟨rfl, hb2⟩

set_option maxRecDepth 100000 in
set_option maxHeartbeats 3200000 in
theorem makes17_none (blocks from_ tree : Int) {A2 : Option Addr} {n2 c2 : Nat} {l : List Ent17} (w : World) (hE : Ens w A2 n2 c2 l) (hf : fewB17 l = true) (hg : ErrT w) {q : Nat} (hq : bits .and .i64 blocks 127 = (q : Int)) (hq2 : q ≤ 127) (hn : from_ < 1 ∨ (q : Int) < from_) :
    Calls Tryz.prog 3 #[.int .i64 blocks, .int .i64 from_, .int .i64 tree, .slice A2 n2 c2] w fun e w' => e = .returned (.bool true) ∧ Below w.heap.size w w' := by
  have FW := Lib.hid (few_any17 w hE)
  rw [hf] at FW
  have MD : Hid (Calls Tryz.prog 7 #[.int .i64 (q : Int), .int .i64 from_] w fun e w' => e = .returned (.pointer none) ∧ Below w.heap.size w w') := by
    refine (made_any17 q from_ w (by omega)).mono ?_
    rintro e w' ⟨va, rfl, h2, h3⟩
    rcases h2 with ⟨_, rfl⟩ | ⟨h, _⟩
    · exact ⟨rfl, h3⟩
    · exact absurd hn h
  have MK : Hid (∀ W : World, (Instr.makeSlice 29 (.int .i64 (256 * (q : Int))) (.int .i64 (256 * (q : Int)))).run Tryz.prog W = .ok (.slice (some ⟨W.heap.size, 0, none⟩) (q * 256) (q * 256)) (W.alloc (.cells (u8s (zero17 (q * 256))).toArray 5))) := fun W => by
    have := make17 (q * 256) (by omega) W
    rwa [show ((q * 256 : Nat) : Int) = 256 * (q : Int) by omega] at this
  have OF := Lib.hid (fun W => refOf17 q W (by omega))
  have NW : Hid (∀ W1 W m2 v, Below w.heap.size w W1 → Below W1.heap.size W1 W → RImg W W1.heap.size m2 v (blks (zero17 (q * 256)) q) → Calls Tryz.prog 9 #[.pointer (some ⟨m2, 0, none⟩), .int .i64 from_] W fun e w' => ∃ x, e = .returned (.tuple #[.pointer none, .agg #[.slice none 0 0, .int .i64 x]]) ∧ Below w.heap.size w w') := fun W1 W m2 v hb1 hb hI => by
    have hbW := hb1.trans (hb.mono hb1.size)
    refine (refNew_bad16 from_ hI (blks_length _ _) (by omega) hn).mono ?_
    rintro e w' ⟨h1, h2⟩
    exact ⟨_, h1, hbW.trans (h2.mono hbW.size)⟩
  have TR := Lib.hid (fun W => Tree_no17 W tree A2 n2 c2)
  have CD : Hid (∀ W, Below w.heap.size w W → Calls Tryz.prog 11 #[.iface 40 (.int .i64 18)] W fun e w' => e = .returned (.int .i64 18) ∧ Below w.heap.size w w') := fun W hW => (Code_err (x := .num 18) (l := []) (w := W) rfl (hg.later hW)).mono fun e w' g => ⟨g.1, hW.trans (g.2.mono hW.size)⟩
  have LV : Hid (∀ W, Below w.heap.size w W → Calls Tryz.prog 6 #[] W fun e w' => e = .returned (.bool true) ∧ Below w.heap.size w w') := fun W hW => (lives17_any W).mono fun e w' g => ⟨g.1, hW.trans (g.2.mono hW.size)⟩
  have hqi : (q : Int) ≤ 127 := by omega
  clear hE hf hg hn
  generalize hqn : q * 256 = nq at *
  go_enter Tryz.func3, Tryz.ntmps3
  go_wp2_with (first
    | (go_at_call 5; (with_reducible refine (FW.out).mono ?_); rintro e w1 ⟨rfl, rfl⟩)
    | (go_at_call 7; (with_reducible refine (MD.out).mono ?_); rintro e w2 ⟨rfl, hb2⟩; have mk := MK.out w2)
    | (go_at_call 8; (with_reducible refine (OF.out _).mono ?_); rintro e w3 ⟨m2, v, rfl, hI3, hb3⟩)
    | (go_at_call 9; (with_reducible refine (NW.out _ _ _ _ hb2 hb3 hI3).mono ?_); rintro e w4 ⟨x, rfl, hb4⟩; have hb5 : Below w.heap.size w (w4.alloc (.cells #[.slice none 0 0, .int .i64 x] 33)) := hb4.alloc hb4.size _)
    | (go_at_call 10; (with_reducible refine (TR.out _).mono ?_); rintro e w6 ⟨rfl, hb6⟩; have hb7 : Below w.heap.size w w6 := hb5.trans (hb6.mono hb5.size))
    | (go_at_call 11; (with_reducible refine (CD.out _ hb7).mono ?_); rintro e w8 ⟨rfl, hb8⟩)
    | (go_at_call 6; (with_reducible refine (LV.out _ hb8).mono ?_); rintro e w9 ⟨rfl, hb9⟩))
  go_ret
  exact ⟨rfl, hb9⟩
end Go.Proofs.YtnjlganofjkpfaaGreatDoor

/-
  The walk of BuildMakes, where there is an allocator.
-/
namespace Go.Proofs.YtnjlganofjkpfaaGreatDoor
open Go.RowKit
set_option linter.unusedVariables false
set_option linter.unusedSimpArgs false

/-- both trees built, the document's error in a variable -/
structure Fm17 (w W : World) (q : Nat) (bs : List Int) (base p m g : Nat) (A : Option Addr) (n c t : Nat) (L : List UInt8) (base2 p2 m2 : Nat) (v : Value) (bf : Nat) (x : Int) : Prop where
  bm : Bm17 w W q bs base p m g A n c t L base2 p2 m2 v t L
  ft : FltAt W bf (.slice none 0 0) (.int .i64 x)
section
variable {w W W' : World} {q : Nat} {bs : List Int} {base p m g : Nat} {A : Option Addr} {n c t : Nat} {L : List UInt8} {base2 p2 m2 : Nat} {v : Value} {bf : Nat} {x : Int}
theorem Fm17.later (h : Fm17 w W q bs base p m g A n c t L base2 p2 m2 v bf x) (hb : Below W.heap.size W W') : Fm17 w W' q bs base p m g A n c t L base2 p2 m2 v bf x := ⟨h.bm.later hb, h.ft.later hb⟩
theorem Fm17.cs (h : Fm17 w W q bs base p m g A n c t L base2 p2 m2 v bf x) : W.cell? ⟨bf, 0, none⟩ = some (.slice none 0 0) ∧ W.cell? ⟨bf, 1, none⟩ = some (.int .i64 x) ∧ W.cell? ⟨p2, 2, none⟩ = some (.int .i64 (t : Int)) := by
  obtain ⟨_, A3, c3, h1, _⟩ := h.bm.ri.ra
  obtain ⟨_, _, k2, _⟩ := RAlc.cells h1
  exact ⟨h.ft.c0, h.ft.c1, k2⟩
theorem Fm17.told {ve : Value} (h : Fm17 w W q bs base p m g A n c t L base2 p2 m2 v bf x) (he : ErrD16 W ve [] x) (hg : ErrT w) : Calls Tryz.prog 14 #[ve] W fun e w' => ∃ A5 n5 c5, e = .returned (.agg #[.slice A5 n5 c5, .int .i64 x]) ∧ Hid (Ints w' A5 n5 c5 []) ∧ Fm17 w w' q bs base p m g A n c t L base2 p2 m2 v bf x :=
  (he.told (hg.later h.bm.bel)).mono fun e w' ⟨A5, n5, c5, h1, h2, h3⟩ => ⟨A5, n5, c5, h1, h2, h.later h3⟩
theorem Fm17.same {A5 : Option Addr} {n5 c5 : Nat} (h : Fm17 w W q bs base p m g A n c t L base2 p2 m2 v bf x) (hI : Hid (Ints W A5 n5 c5 [])) : Calls Tryz.prog 13 #[.agg #[.slice A5 n5 c5, .int .i64 x], .agg #[.slice none 0 0, .int .i64 x]] W fun e w' => e = .returned (.bool true) ∧ Fm17 w w' q bs base p m g A n c t L base2 p2 m2 v bf x :=
  (Flt_same x hI.out (Ints.nil W)).mono fun e w' ⟨h1, h2⟩ => ⟨h1, h.later h2⟩
theorem Fm17.bytes (h : Fm17 w W q bs base p m g A n c t L base2 p2 m2 v bf x) : Calls Tryz.prog 17 #[.pointer (some ⟨m, 0, none⟩)] W fun e w' => ∃ A7, e = .returned (.slice A7 L.length L.length) ∧ Bytes8 w' A7 L.length L.length L ∧ Below W.heap.size W w' ∧ Fm17 w w' q bs base p m g A n c t L base2 p2 m2 v bf x :=
  (Bytes_img W h.bm.ai.img).mono fun e w' ⟨A7, h1, h2, h3⟩ => ⟨A7, h1, h2, h3, h.later h3⟩
theorem Fm17.rbytes (h : Fm17 w W q bs base p m g A n c t L base2 p2 m2 v bf x) : Calls Tryz.prog 18 #[.pointer (some ⟨m2, 0, none⟩)] W fun e w' => ∃ A8 c8, e = .returned (.slice A8 L.length c8) ∧ Bytes8 w' A8 L.length c8 L ∧ Below W.heap.size W w' ∧ Fm17 w w' q bs base p m g A n c t L base2 p2 m2 v bf x := by
  have hm := h.bm.ai.img.most
  rw [h.bm.len] at hm
  have := refBytes_any W h.bm.ri.ri (by rw [blks_flatten _ _ h.bm.len, h.bm.len]; exact hm)
  rw [blks_flatten _ _ h.bm.len] at this
  exact this.mono fun e w' ⟨A8, c8, h1, h2, h3⟩ => ⟨A8, c8, h1, h2, h3, h.later h3⟩
theorem Fm17.image (h : Fm17 w W q bs base p m g A n c t L base2 p2 m2 v bf x) : Calls Tryz.prog 16 #[.pointer (some ⟨p, 0, none⟩)] W fun e w' => e = .returned (.pointer (some ⟨m, 0, none⟩)) ∧ W = w' := Image_yes16 h.bm.ai.alc
theorem Fm17.used (h : Fm17 w W q bs base p m g A n c t L base2 p2 m2 v bf x) : Calls Tryz.prog 15 #[.pointer (some ⟨p, 0, none⟩)] W fun e w' => e = .returned (.int .i64 (t : Int)) ∧ W = w' := Used_yes16 h.bm.ai.alc
end

set_option maxRecDepth 100000 in
set_option maxHeartbeats 6400000 in
theorem makes17_good (blocks tree : Int) {A2 : Option Addr} {n2 c2 : Nat} {l : List Ent17} (w : World) (hE : Ens w A2 n2 c2 l) (hEB : EntB l) (hf : fewB17 l = true) (ht : i64b tree) (hg : ErrT w) {q f : Nat} (hq : bits .and .i64 blocks 127 = (q : Int)) (hq2 : q ≤ 127) (hf1 : 1 ≤ f) (hf2 : f ≤ q) :
    Calls Tryz.prog 3 #[.int .i64 blocks, .int .i64 (f : Int), .int .i64 tree, .slice A2 n2 c2] w fun e w' => e = .returned (.bool true) ∧ Below w.heap.size w w' := by
  have FW := Lib.hid (few_any17 w hE)
  rw [hf] at FW
  have hnf : ¬ ((f : Int) < 1 ∨ (q : Int) < (f : Int)) := by omega
  have MD : Hid (Calls Tryz.prog 7 #[.int .i64 (q : Int), .int .i64 (f : Int)] w fun e w' => ∃ p, e = .returned (.pointer (some ⟨p, 0, none⟩)) ∧ Hid (Md17 w w' q (f : Int) (.pointer (some ⟨p, 0, none⟩))) ∧ Hid (Below w.heap.size w w')) := by
    refine (made_any17 q (f : Int) w (by omega)).mono ?_
    rintro e w' ⟨va, rfl, h2, h3⟩
    rcases h2 with ⟨h, _⟩ | ⟨h, base, p, m, g, A, n, c, rfl, h4, h5⟩
    · exact absurd h hnf
    · exact ⟨p, rfl, .inr ⟨h, base, p, m, g, A, n, c, rfl, h4, h5⟩, h3⟩
  have MK : Hid (∀ W : World, (Instr.makeSlice 29 (.int .i64 (256 * (q : Int))) (.int .i64 (256 * (q : Int)))).run Tryz.prog W = .ok (.slice (some ⟨W.heap.size, 0, none⟩) (q * 256) (q * 256)) (W.alloc (.cells (u8s (zero17 (q * 256))).toArray 5))) := fun W => by
    have := make17 (q * 256) (by omega) W
    rwa [show ((q * 256 : Nat) : Int) = 256 * (q : Int) by omega] at this
  have OF : Hid (∀ W : World, Calls Tryz.prog 8 #[.slice (some ⟨W.heap.size, 0, none⟩) (q * 256) (q * 256)] (W.alloc (.cells (u8s (zero17 (q * 256))).toArray 5)) fun e w' => ∃ m2 v, e = .returned (.pointer (some ⟨m2, 0, none⟩)) ∧ Hid (RImg w' W.heap.size m2 v (blks (zero17 (q * 256)) q)) ∧ Hid (Below W.heap.size W w')) := fun W => refOf17 q W (by omega)
  have NW : Hid (∀ (W1 W : World) (p m2 : Nat) (v : Value), Hid (Md17 w W1 q (f : Int) (.pointer (some ⟨p, 0, none⟩))) → Hid (Below w.heap.size w W1) → Hid (Below W1.heap.size W1 W) → Hid (RImg W W1.heap.size m2 v (blks (zero17 (q * 256)) q)) → Calls Tryz.prog 9 #[.pointer (some ⟨m2, 0, none⟩), .int .i64 (f : Int)] W fun e w' => ∃ p2 x, e = .returned (.tuple #[.pointer (some ⟨p2, 0, none⟩), .agg #[.slice none 0 0, .int .i64 x]]) ∧ Hid (∃ base m g A n c base2 v, Bm17 w w' q (seq16 f q) base p m g A n c 0 (zero17 (q * 256)) base2 p2 m2 v 0 (zero17 (q * 256)))) := fun W1 W p m2 v hM hb1 hb hI => by
    rcases hM.out with ⟨h, _⟩ | ⟨_, base, p', m, g, A, n, c, hp, h3, h4⟩
    · exact absurd h hnf
    · injection hp with hp
      injection hp with hp
      injection hp with hp
      subst hp
      have hbW := hb1.out.trans (hb.out.mono hb1.out.size)
      have hbs := hb1.out.size
      rw [Int.toNat_natCast] at h3
      refine (refNew_good16 f hI.out (blks_length _ _) (by omega) hf1 hf2).mono ?_
      rintro e w' ⟨p2, h1, h2, h5⟩
      have hpl := h3.alc.plt
      have hbp := hI.out.bp
      refine ⟨p2, 0, h1, base, m, g, A, n, c, W.heap.size, v, ⟨hbW.trans (h5.mono hbW.size), (h3.later hb.out).later h5, ⟨?_, ⟨by omega, (hI.out.later h5).hp, (hI.out.later h5).own⟩, hI.out.plt, fun k e => hI.out.own_of k e⟩, h4, by omega, by simp, by simp⟩⟩
      rw [List.drop_zero]; exact h2
  have hBs := seq17_bs (f := f) (q := q) hf1 (by omega)
  have hsl : (seq16 f q).length ≤ 100000 := by rw [seq16_length]; omega
  have TR : Hid (∀ (W : World) (base p m g : Nat) (A : Option Addr) (n c base2 p2 m2 : Nat) (v : Value), Hid (Bm17 w W q (seq16 f q) base p m g A n c 0 (zero17 (q * 256)) base2 p2 m2 v 0 (zero17 (q * 256))) → Calls Tryz.prog 10 #[.pointer (some ⟨p, 0, none⟩), .int .i64 tree, .slice A2 n2 c2] W fun e w' => e = .returned (.tuple #[.int .i64 (outB17 q tree (seq16 f q) l 0 (zero17 (q * 256))).root, errV17 (outB17 q tree (seq16 f q) l 0 (zero17 (q * 256))).x]) ∧ Hid (Bm17 w w' q (seq16 f q) base p m g A n c (outB17 q tree (seq16 f q) l 0 (zero17 (q * 256))).t (outB17 q tree (seq16 f q) l 0 (zero17 (q * 256))).L base2 p2 m2 v 0 (zero17 (q * 256)))) := fun W base p m g A n c base2 p2 m2 v h => h.out.tree hE hEB hBs ht
  have RT : Hid (∀ (W : World) (base p m g : Nat) (A : Option Addr) (n c t : Nat) (L : List UInt8) (base2 p2 m2 : Nat) (v : Value), Hid (Bm17 w W q (seq16 f q) base p m g A n c t L base2 p2 m2 v 0 (zero17 (q * 256))) → Calls Tryz.prog 12 #[.pointer (some ⟨p2, 0, none⟩), .int .i64 tree, .slice A2 n2 c2] W fun e w' => e = .returned (.tuple #[.int .i64 (outB17 q tree (seq16 f q) l 0 (zero17 (q * 256))).root, .agg #[.slice none 0 0, .int .i64 (outB17 q tree (seq16 f q) l 0 (zero17 (q * 256))).x]]) ∧ Hid (Bm17 w w' q (seq16 f q) base p m g A n c t L base2 p2 m2 v (outB17 q tree (seq16 f q) l 0 (zero17 (q * 256))).t (outB17 q tree (seq16 f q) l 0 (zero17 (q * 256))).L)) := fun W base p m g A n c t L base2 p2 m2 v h => h.out.rtree hE hEB hBs ht hsl (Nat.zero_le _)
  have hqi : (q : Int) ≤ 127 := by omega
  have HG := Lib.hid hg
  clear hE hEB hf ht hg hBs hsl hnf
  generalize hqn : q * 256 = nq at *
  generalize outB17 q tree (seq16 f q) l 0 (zero17 nq) = o at *
  obtain ⟨x, root, t, L⟩ := o
  simp only at TR RT
  have HE : Hid (∀ W, ErrD16 W (errV17 x) [] x) := fun W => errV17_told W x
  generalize errV17 x = ve at *
  generalize zero17 nq = L0 at *
  generalize seq16 f q = bs at *
  have hfi : 1 ≤ (f : Int) := by omega
  clear hqn
  go_enter Tryz.func3, Tryz.ntmps3
  go_wp2_with (first
    | (go_at_call 5; (with_reducible refine (FW.out).mono ?_); rintro e w1 ⟨rfl, rfl⟩)
    | (go_at_call 7; (with_reducible refine (MD.out).mono ?_); rintro e w2 ⟨p, rfl, hM2, hb2⟩; have mk := MK.out w2)
    | (go_at_call 8; (with_reducible refine (OF.out _).mono ?_); rintro e w3 ⟨m2, v0, rfl, hI3, hb3⟩)
    | (go_at_call 9; (with_reducible refine (NW.out _ _ _ _ _ hM2 hb2 hb3 hI3).mono ?_); rintro e w4 ⟨p2, x0, rfl, hX4⟩; obtain ⟨base, m, g, A, n, c, base2, v, hB4⟩ := hX4.out; have HB5 := Lib.hid (hB4.later ((Below.refl w4.heap.size w4).alloc (Nat.le_refl _) (.cells #[.slice none 0 0, .int .i64 x0] 33))); clear hX4 hB4)
    | (go_at_call 10; (with_reducible refine (TR.out _ _ _ _ _ _ _ _ _ _ _ _ HB5).mono ?_); rintro e w6 ⟨rfl, HB6⟩)
    | (go_at_call 12; (with_reducible refine (RT.out _ _ _ _ _ _ _ _ _ _ _ _ _ _ HB6).mono ?_); rintro e w7 ⟨rfl, HB7⟩))
  have hF8 : Fm17 w (w7.alloc (.cells #[.slice none 0 0, .int .i64 x] 33)) q bs base p m g A n c t L base2 p2 m2 v w7.heap.size x := ⟨HB7.out.later ((Below.refl w7.heap.size w7).alloc (Nat.le_refl _) _), FltAt.new w7 _ _⟩
  obtain ⟨w8, hw8⟩ : ∃ w8, w7.alloc (.cells #[.slice none 0 0, .int .i64 x] 33) = w8 := ⟨_, rfl⟩
  obtain ⟨bf, hbf⟩ : ∃ bf, w7.heap.size = bf := ⟨_, rfl⟩
  rw [hw8, hbf] at hF8
  have HF8 := Lib.hid hF8
  have hF8d := hF8.later (Below.refl w8.heap.size w8).drew
  have c8 := hF8.cs
  have c8d := hF8d.cs
  have TL := Lib.hid (fun W (h : Fm17 w W q bs base p m g A n c t L base2 p2 m2 v bf x) => h.told (HE.out W) HG.out)
  have SM := Lib.hid (fun W A5 n5 c5 (h : Fm17 w W q bs base p m g A n c t L base2 p2 m2 v bf x) (hI : Hid (Ints W A5 n5 c5 [])) => h.same hI)
  have US := Lib.hid (fun W (h : Fm17 w W q bs base p m g A n c t L base2 p2 m2 v bf x) => h.used)
  have IM := Lib.hid (fun W (h : Fm17 w W q bs base p m g A n c t L base2 p2 m2 v bf x) => h.image)
  have BY := Lib.hid (fun W (h : Fm17 w W q bs base p m g A n c t L base2 p2 m2 v bf x) => h.bytes)
  have BR := Lib.hid (fun W (h : Fm17 w W q bs base p m g A n c t L base2 p2 m2 v bf x) => h.rbytes)
  have CS := Lib.hid (fun W (h : Fm17 w W q bs base p m g A n c t L base2 p2 m2 v bf x) => h.cs)
  have LV : Hid (∀ W, Fm17 w W q bs base p m g A n c t L base2 p2 m2 v bf x → Calls Tryz.prog 6 #[] W fun e w' => e = .returned (.bool true) ∧ Below w.heap.size w w') := fun W h => (lives17_any W).mono fun e w' g => ⟨g.1, h.bm.bel.trans (g.2.mono h.bm.bel.size)⟩
  clear hF8 FW MD MK OF NW TR RT HB5 HB6 HB7 hM2 hb2 hb3 hI3 HE HG mk
  obtain ⟨c80, c81, c82⟩ := c8
  obtain ⟨d80, d81, d82⟩ := c8d
  go_wp2
  go_region_with (first
    | (go_at_call 14; (with_reducible refine (TL.out _ (by assumption)).mono ?_); rintro e wa ⟨A5, n5, c5, rfl, hI5, hNa⟩; obtain ⟨a0, a1, a2⟩ := CS.out _ hNa)
    | (go_at_call 13; (with_reducible refine (SM.out _ _ _ _ hNa hI5).mono ?_); rintro e wb ⟨rfl, hNb⟩; obtain ⟨b0, b1, b2⟩ := CS.out _ hNb)
    | (go_at_call 15; (with_reducible refine (US.out _ hNb).mono ?_); rintro e wc ⟨rfl, rfl⟩)
    | (go_at_call 16; (with_reducible refine (IM.out _ hNb).mono ?_); rintro e wd ⟨rfl, rfl⟩)
    | (go_at_call 17; (with_reducible refine (BY.out _ hNb).mono ?_); rintro e we ⟨A7, rfl, hB7, hb7, hNe⟩; have cv7 := run_str hB7)
    | (go_at_call 18; (with_reducible refine (BR.out _ hNe).mono ?_); rintro e wf ⟨A8, c8, rfl, hB8, hb8, hNf⟩; have cv8 := run_str hB8; have cv78 := run_str (hB7.below hb8))
    | (go_at_call 6; (with_reducible refine (LV.out _ hNf).mono ?_); rintro e wg ⟨rfl, hbg⟩))
  all_goals go_wp2
  all_goals go_ret
  all_goals exact ⟨rfl, hbg⟩
end Go.Proofs.YtnjlganofjkpfaaGreatDoor
