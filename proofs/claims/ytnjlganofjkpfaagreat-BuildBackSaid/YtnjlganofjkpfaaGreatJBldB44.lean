/-
  Joined: BldE, BldF, BldG, BldH, BldV, BldW.
-/
import Derived.Deep.RegionWith
import Derived.Test.YtnjlganofjkpfaaGreatJBldB43
import Derived.Deep.RegionHeld3
import Derived.Test.YtnjlganofjkpfaaGreatJBldB12
import Derived.Test.YtnjlganofjkpfaaGreatJBldB03
import Derived.Laws.BitsLemmas
/-
  Layer 17: Tree's level, Tree.
-/
namespace Go.Proofs.YtnjlganofjkpfaaGreat
open Go.RowKit
set_option linter.unusedVariables false
set_option linter.unusedSimpArgs false

/-- one variable in a block of its own -/
def Bx17 (w : World) (b : Nat) (T : TypeId) (v : Value) : Prop := w.heap[b]? = some (Obj.cells #[v] T (0, 0))
section
variable {w w' : World} {b : Nat} {T : TypeId} {v : Value}
theorem Bx17.cell (h : Bx17 w b T v) : w.cell? ⟨b, 0, none⟩ = some v := by rw [cell_of_row w b 0 _ _ _ h]; rfl
theorem Bx17.free (h : Bx17 w b T v) : w.frozen? ⟨b, 0, none⟩ = false := frozen_of_row w b 0 _ _ h
theorem Bx17.kept (h : Bx17 w b T v) (hk : w'.heap[b]? = w.heap[b]?) : Bx17 w' b T v := hk.trans h
theorem Bx17.store (h : Bx17 w b T v) (v' : Value) : Bx17 (w.setCell ⟨b, 0, none⟩ v') b T v' := by
  unfold Bx17
  rw [heap_setCell_same w b 0 _ _ _ h]
  rfl
end
/-- Tree's variables, while its levels are written -/
structure Tr17 (w W : World) (br : Nat) (tree : Int) (bs : List Int) (base p m B g : Nat) (A : Option Addr) (n c t : Nat) (L : List UInt8) (A2 : Option Addr) (n2 c2 : Nat) (l0 : List Ent17) (x : Int) : Prop where
  ai : AImg W base p m B g A n c bs t L
  ens : Ens W A2 n2 c2 l0
  far : 0 < n2 → ∀ ad, A2 = some ad → ad.block ≠ g ∧ ad.block ≠ p ∧ (ad.block < w.heap.size ∨ br + 2 ≤ ad.block)
  fr : Fr2 w W (some g) (some p)
  hp : p < w.heap.size
  lo : w.heap.size + 3 ≤ br
  sz : br + 2 ≤ W.heap.size
  ba : Bx17 W w.heap.size 27 (.pointer (some ⟨p, 0, none⟩))
  bt : Bx17 W (w.heap.size + 1) 3 (.int .i64 tree)
  bl : Bx17 W (w.heap.size + 2) 23 (.slice A2 n2 c2)
  br_ : Bx17 W br 3 (.int .i64 x)
  bf : Bx17 W (br + 1) 30 .nilIface
section
variable {w W W' : World} {br : Nat} {tree : Int} {bs : List Int} {base p m B g : Nat} {A : Option Addr} {n c t : Nat} {L : List UInt8} {A2 : Option Addr} {n2 c2 : Nat} {l0 : List Ent17} {x : Int}
theorem Tr17.glt (h : Tr17 w W br tree bs base p m B g A n c t L A2 n2 c2 l0 x) : g < w.heap.size := by
  have := h.hp
  have := h.ai.glt
  have := h.ai.alc.bp
  omega
theorem Tr17.later (h : Tr17 w W br tree bs base p m B g A n c t L A2 n2 c2 l0 x) (hb : Below W.heap.size W W') : Tr17 w W' br tree bs base p m B g A n c t L A2 n2 c2 l0 x := by
  have hs := h.sz
  have hlo := h.lo
  exact ⟨h.ai.later hb, h.ens.below hb, h.far, h.fr.trans (Fr2.of_below hb _ _), h.hp, h.lo, Nat.le_trans h.sz hb.size, h.ba.kept (hb.block _ (by omega)), h.bt.kept (hb.block _ (by omega)), h.bl.kept (hb.block _ (by omega)), h.br_.kept (hb.block _ (by omega)), h.bf.kept (hb.block _ (by omega))⟩
/-- a level has been written, and is stored -/
theorem Tr17.wrote (h : Tr17 w W br tree bs base p m B g A n c t L A2 n2 c2 l0 x) {t' : Nat} {L' : List UInt8} {A3 : Option Addr} {n3 c3 : Nat} {l3 : List Ent17} {x3 : Int} (ha : AImg W' base p m B g A n c bs t' L') (hE : Ens W' A3 n3 c3 l3) (hn : Newer W.heap.size A3) (hf : Fr2 W W' (some g) (some p)) :
    Tr17 w (((W'.setCell ⟨w.heap.size + 2, 0, none⟩ (.slice A3 n3 c3)).setCell ⟨br, 0, none⟩ (.int .i64 x3)).setCell ⟨(br + 1), 0, none⟩ .nilIface) br tree bs base p m B g A n c t' L' A3 n3 c3 l3 x3 := by
  have hg := h.glt
  have hp := h.hp
  have hs := h.sz
  have hlo := h.lo
  have hs2 := hf.size
  have keep : ∀ k, k ≠ w.heap.size + 2 → k ≠ br → k ≠ (br + 1) → (((W'.setCell ⟨w.heap.size + 2, 0, none⟩ (.slice A3 n3 c3)).setCell ⟨br, 0, none⟩ (.int .i64 x3)).setCell ⟨(br + 1), 0, none⟩ .nilIface).heap[k]? = W'.heap[k]? := fun k h2 h3 h4 => by
    rw [heap_setCell_other _ _ k _ h4, heap_setCell_other _ _ k _ h3, heap_setCell_other _ _ k _ h2]
  have hb9 : Below w.heap.size W' (((W'.setCell ⟨w.heap.size + 2, 0, none⟩ (.slice A3 n3 c3)).setCell ⟨br, 0, none⟩ (.int .i64 x3)).setCell ⟨(br + 1), 0, none⟩ .nilIface) := (((Below.refl _ _).setCell (p := ⟨w.heap.size + 2, 0, none⟩) (by show _ ≤ w.heap.size + 2; omega) _).setCell (p := ⟨br, 0, none⟩) (by show _ ≤ br; omega) _).setCell (p := ⟨(br + 1), 0, none⟩) (by show _ ≤ (br + 1); omega) _
  have h2 : Bx17 W' (w.heap.size + 2) _ _ := h.bl.kept (hf.block _ (by omega) (fun e => by injection e; omega) (fun e => by injection e; omega))
  have h3 : Bx17 W' (br) _ _ := h.br_.kept (hf.block _ (by omega) (fun e => by injection e; omega) (fun e => by injection e; omega))
  have h4 : Bx17 W' (br + 1) _ _ := h.bf.kept (hf.block _ (by omega) (fun e => by injection e; omega) (fun e => by injection e; omega))
  refine ⟨ha.keep17 hb9 hp, ⟨hE.len, hE.cap, hE.most, hE.row.newer hn fun k hk => keep k (by omega) (by omega) (by omega)⟩, fun _ ad e => ?_, ?_, hp, hlo, by simp [World.setCell]; omega, ?_, ?_, ?_, ?_, ?_⟩
  · have := hn ad e
    exact ⟨by omega, by omega, by omega⟩
  · have hf2 := h.fr.trans hf
    exact ⟨hb9.os.trans hf2.os, hb9.tape.trans hf2.tape, hb9.output.trans hf2.output, Nat.le_trans hf2.size hb9.size, fun k hk h1 h2 => (hb9.block k hk).trans (hf2.block k hk h1 h2)⟩
  · exact (h.ba.kept (hf.block _ (by omega) (fun e => by injection e; omega) (fun e => by injection e; omega))).kept (keep _ (by omega) (by omega) (by omega))
  · exact (h.bt.kept (hf.block _ (by omega) (fun e => by injection e; omega) (fun e => by injection e; omega))).kept (keep _ (by omega) (by omega) (by omega))
  · refine (h2.store _).kept ?_
    rw [heap_setCell_other _ _ _ _ (by show w.heap.size + 2 ≠ (br + 1); omega), heap_setCell_other _ _ _ _ (by show w.heap.size + 2 ≠ br; omega)]
  · have h3' : Bx17 (W'.setCell ⟨w.heap.size + 2, 0, none⟩ (.slice A3 n3 c3)) (br) _ _ := h3.kept (heap_setCell_other _ _ _ _ (by show br ≠ w.heap.size + 2; omega))
    exact (h3'.store _).kept (heap_setCell_other _ _ _ _ (by show br ≠ (br + 1); omega))
  · have h4' : Bx17 ((W'.setCell ⟨w.heap.size + 2, 0, none⟩ (.slice A3 n3 c3)).setCell ⟨br, 0, none⟩ (.int .i64 x3)) (br + 1) _ _ := h4.kept (by rw [heap_setCell_other _ _ _ _ (by show (br + 1) ≠ br; omega), heap_setCell_other _ _ _ _ (by show (br + 1) ≠ w.heap.size + 2; omega)])
    exact h4'.store _

set_option maxRecDepth 100000 in
set_option maxHeartbeats 1600000 in
/-- a level -/
theorem level_any17 {q : Nat} {leaf : Bool} {mm : Nat} (h : Tr17 w W br tree bs base p m B g A n c t L A2 n2 c2 l0 x) (hEB : EntB l0) (hF : LvF17 q tree bs leaf mm l0 t L) (hB : Bs17 q bs) (ht : i64b tree) :
    Calls Tryz.prog 17 #[.bool leaf, .pointer (some ⟨(br + 1), 0, none⟩), .pointer (some ⟨w.heap.size, 0, none⟩), .pointer (some ⟨w.heap.size + 1, 0, none⟩), .pointer (some ⟨w.heap.size + 2, 0, none⟩), .pointer (some ⟨br, 0, none⟩)] W fun e w' => e = .returned (.tuple #[]) ∧ ∃ A3 c3, Tr17 w w' br tree bs base p m B g A n c (t + fil15 l0.length mm) (levW17 q tree leaf mm l0 bs t (fil15 l0.length mm) L) A3 (upP17 mm l0 bs t (fil15 l0.length mm)).length c3 (upP17 mm l0 bs t (fil15 l0.length mm)) (bs.getD (t + fil15 l0.length mm - 1) 0) := by
  have WR : Hid (Calls Tryz.prog 18 #[.pointer (some ⟨p, 0, none⟩), .int .i64 tree, .bool leaf, .slice A2 n2 c2] W fun e w' => ∃ A3 c3, e = .returned (.tuple #[.slice A3 (upP17 mm l0 bs t (fil15 l0.length mm)).length c3, .int .i64 (bs.getD (t + fil15 l0.length mm - 1) 0), .nilIface]) ∧ Hid (Tr17 w (((w'.setCell ⟨w.heap.size + 2, 0, none⟩ (.slice A3 (upP17 mm l0 bs t (fil15 l0.length mm)).length c3)).setCell ⟨br, 0, none⟩ (.int .i64 (bs.getD (t + fil15 l0.length mm - 1) 0))).setCell ⟨(br + 1), 0, none⟩ .nilIface) br tree bs base p m B g A n c (t + fil15 l0.length mm) (levW17 q tree leaf mm l0 bs t (fil15 l0.length mm) L) A3 (upP17 mm l0 bs t (fil15 l0.length mm)).length c3 (upP17 mm l0 bs t (fil15 l0.length mm)) (bs.getD (t + fil15 l0.length mm - 1) 0)) ∧ Bx17 w' (w.heap.size + 2) 23 (.slice A2 n2 c2) ∧ Bx17 w' (br) 3 (.int .i64 x) ∧ Bx17 w' (br + 1) 30 .nilIface) := by
    refine (write_any17 h.ai h.ens (fun h0 ad e => ⟨(h.far h0 ad e).1, (h.far h0 ad e).2.1⟩) hEB hF hB ht).mono ?_
    rintro e w' ⟨A3, c3, h1, h2, h3, h4, h5⟩
    have hg := h.glt
    have hp := h.hp
    have hs := h.sz
    have hlo := h.lo
    exact ⟨A3, c3, h1, h.wrote h4 h2 h3 h5, h.bl.kept (h5.block _ (by omega) (fun e => by injection e; omega) (fun e => by injection e; omega)), h.br_.kept (h5.block _ (by omega) (fun e => by injection e; omega) (fun e => by injection e; omega)), h.bf.kept (h5.block _ (by omega) (fun e => by injection e; omega) (fun e => by injection e; omega))⟩
  have ca := h.ba.cell
  have ct := h.bt.cell
  have cl := h.bl.cell
  have cf := h.bf.cell
  have hlo := h.lo
  have k1 : ¬ br = w.heap.size + 2 := by omega
  have k2 : ¬ br + 1 = w.heap.size + 2 := by omega
  have k3 : ¬ br = w.heap.size + 1 := by omega
  have k4 : ¬ w.heap.size + 2 = br := by omega
  have k5 : ¬ w.heap.size + 2 = br + 1 := by omega
  have k6 : ¬ w.heap.size + 1 = br := by omega
  clear h hEB hF hB ht
  generalize bs.getD (t + fil15 l0.length mm - 1) 0 = no at *
  generalize (upP17 mm l0 bs t (fil15 l0.length mm)).length = nu at *
  go_enter Tryz.func17, Tryz.ntmps17
  go_wp2_with (go_at_call 18; (with_reducible refine (WR.out).mono ?_); rintro e w1 ⟨A3, c3, rfl, hT, h2, h3, h4⟩; have d2 := h2.cell; have d3 := h3.cell; have d4 := h4.cell; have f2 := h2.free; have f3 := h3.free; have f4 := h4.free)
  go_end0
  exact ⟨rfl, A3, c3, hT.out⟩
end
end Go.Proofs.YtnjlganofjkpfaaGreat

/-
  Layer 17: Tree.
-/
namespace Go.Proofs.YtnjlganofjkpfaaGreat
open Go.RowKit
set_option linter.unusedVariables false
set_option linter.unusedSimpArgs false

/-- the error, as an interface value -/
def errV17 (x : Int) : Value := if x = 0 then .nilIface else .iface 49 (.int .i64 x)

/-- Tree's parameters in variables of their own -/
structure St17 (w W : World) (tree : Int) (p : Nat) (A2 : Option Addr) (n2 c2 : Nat) : Prop where
  bel : Below w.heap.size w W
  sz : w.heap.size + 3 ≤ W.heap.size
  ba : Bx17 W w.heap.size 27 (.pointer (some ⟨p, 0, none⟩))
  bt : Bx17 W (w.heap.size + 1) 3 (.int .i64 tree)
  bl : Bx17 W (w.heap.size + 2) 23 (.slice A2 n2 c2)
section
variable {w W W' : World} {tree : Int} {p : Nat} {A2 : Option Addr} {n2 c2 : Nat}
theorem St17.later (h : St17 w W tree p A2 n2 c2) (hb : Below W.heap.size W W') : St17 w W' tree p A2 n2 c2 := by
  have hs := h.sz
  exact ⟨h.bel.trans (hb.mono h.bel.size), Nat.le_trans h.sz hb.size, h.ba.kept (hb.block _ (by omega)), h.bt.kept (hb.block _ (by omega)), h.bl.kept (hb.block _ (by omega))⟩
theorem St17.cs (h : St17 w W tree p A2 n2 c2) : W.cell? ⟨w.heap.size, 0, none⟩ = some (.pointer (some ⟨p, 0, none⟩)) ∧ W.cell? ⟨w.heap.size + 1, 0, none⟩ = some (.int .i64 tree) ∧ W.cell? ⟨w.heap.size + 2, 0, none⟩ = some (.slice A2 n2 c2) := ⟨h.ba.cell, h.bt.cell, h.bl.cell⟩
theorem St17.start (w : World) (tree : Int) (p : Nat) (A2 : Option Addr) (n2 c2 : Nat) : St17 w (((w.alloc (.cells #[.pointer (some ⟨p, 0, none⟩)] 27)).alloc (.cells #[.int .i64 tree] 3)).alloc (.cells #[.slice A2 n2 c2] 23)) tree p A2 n2 c2 := by
  have b1 : Below w.heap.size w (w.alloc (.cells #[.pointer (some ⟨p, 0, none⟩)] 27)) := (Below.refl _ _).alloc (Nat.le_refl _) _
  have h1 : Bx17 (w.alloc (.cells #[.pointer (some ⟨p, 0, none⟩)] 27)) w.heap.size 27 (.pointer (some ⟨p, 0, none⟩)) := heap_alloc_new w _
  obtain ⟨w1, e1⟩ : ∃ w1, w.alloc (.cells #[.pointer (some ⟨p, 0, none⟩)] 27) = w1 := ⟨_, rfl⟩
  have s1 : w1.heap.size = w.heap.size + 1 := by rw [← e1]; simp
  rw [e1] at b1 h1 ⊢
  have b2 : Below w1.heap.size w1 (w1.alloc (.cells #[.int .i64 tree] 3)) := (Below.refl _ _).alloc (Nat.le_refl _) _
  have h2 : Bx17 (w1.alloc (.cells #[.int .i64 tree] 3)) (w.heap.size + 1) 3 (.int .i64 tree) := by rw [← s1]; exact heap_alloc_new w1 _
  obtain ⟨w2, e2⟩ : ∃ w2, w1.alloc (.cells #[.int .i64 tree] 3) = w2 := ⟨_, rfl⟩
  have s2 : w2.heap.size = w.heap.size + 2 := by rw [← e2]; simp; omega
  rw [e2] at b2 h2 ⊢
  have b3 : Below w2.heap.size w2 (w2.alloc (.cells #[.slice A2 n2 c2] 23)) := (Below.refl _ _).alloc (Nat.le_refl _) _
  have h3 : Bx17 (w2.alloc (.cells #[.slice A2 n2 c2] 23)) (w.heap.size + 2) 23 (.slice A2 n2 c2) := by rw [← s2]; exact heap_alloc_new w2 _
  have h1' := h1.kept (b2.block _ (block_lt h1))
  exact ⟨(b1.trans (b2.mono (by omega))).trans (b3.mono (by omega)), by simp; omega, h1'.kept (b3.block _ (block_lt h1')), h2.kept (b3.block _ (block_lt h2)), h3⟩
end

section
variable {w : World} {q : Nat} {tree : Int} {l : List Ent17} {bs : List Int} {t : Nat} {L : List UInt8} {base p m B g : Nat} {A : Option Addr} {n c : Nat} {A2 : Option Addr} {n2 c2 : Nat}
set_option maxRecDepth 100000 in
set_option maxHeartbeats 1600000 in
/-- the entries can't be a tree's -/
theorem Tree_bad17 (h : AImg w base p m B g A n c bs t L) (hE : Ens w A2 n2 c2 l) (hEB : EntB l) (hr : rightB17 tree l = false) :
    Calls Tryz.prog 6 #[.pointer (some ⟨p, 0, none⟩), .int .i64 tree, .slice A2 n2 c2] w fun e w' => e = .returned (.tuple #[.int .i64 0, .iface 49 (.int .i64 1)]) ∧ Below w.heap.size w w' := by
  have S0 := St17.start w tree p A2 n2 c2
  obtain ⟨w3, e3⟩ : ∃ w3, ((w.alloc (.cells #[.pointer (some ⟨p, 0, none⟩)] 27)).alloc (.cells #[.int .i64 tree] 3)).alloc (.cells #[.slice A2 n2 c2] 23) = w3 := ⟨_, rfl⟩
  rw [e3] at S0
  have IM := Lib.hid (Image_yes16 (h.later S0.bel).alc)
  have RT : Hid (Calls Tryz.prog 15 #[.int .i64 tree, .slice A2 n2 c2] w3 fun e w' => e = .returned (.bool false) ∧ Below w.heap.size w w') := (right_any17 tree w3 (hE.below S0.bel) hEB).mono fun e w' h => ⟨by rw [h.1, hr], S0.bel.trans (h.2.mono S0.bel.size)⟩
  obtain ⟨c0, c1, c2_⟩ := S0.cs
  clear h hE hEB hr S0
  go_enter Tryz.func6, Tryz.ntmps6
  go_wp2_with (first
    | (go_at_call 8; (with_reducible refine (IM.out).mono ?_); rintro e w1 ⟨rfl, rfl⟩)
    | (go_at_call 15; (with_reducible refine (RT.out).mono ?_); rintro e w2 ⟨rfl, hb2⟩))
  go_ret2
  exact ⟨rfl, hb2⟩

set_option maxRecDepth 100000 in
set_option maxHeartbeats 1600000 in
/-- there is no room -/
theorem Tree_space17 (h : AImg w base p m B g A n c bs t L) (hE : Ens w A2 n2 c2 l) (hEB : EntB l) (hr : rightB17 tree l = true) (hs : ((bs.length - t : Nat) : Int) < (lev15 l.length (capN (widN tree true))).sum) :
    Calls Tryz.prog 6 #[.pointer (some ⟨p, 0, none⟩), .int .i64 tree, .slice A2 n2 c2] w fun e w' => e = .returned (.tuple #[.int .i64 0, .iface 49 (.int .i64 14)]) ∧ Below w.heap.size w w' := by
  obtain rfl : n2 = l.length := hE.len.symm
  have S0 := St17.start w tree p A2 l.length c2
  obtain ⟨w3, e3⟩ : ∃ w3, ((w.alloc (.cells #[.pointer (some ⟨p, 0, none⟩)] 27)).alloc (.cells #[.int .i64 tree] 3)).alloc (.cells #[.slice A2 l.length c2] 23) = w3 := ⟨_, rfl⟩
  rw [e3] at S0
  have IM := Lib.hid (Image_yes16 (h.later S0.bel).alc)
  have RT : Hid (Calls Tryz.prog 15 #[.int .i64 tree, .slice A2 l.length c2] w3 fun e w' => e = .returned (.bool true) ∧ St17 w w' tree p A2 l.length c2) := (right_any17 tree w3 (hE.below S0.bel) hEB).mono fun e w' h => ⟨by rw [h.1, hr], S0.later h.2⟩
  have LF : Hid (∀ W, St17 w W tree p A2 l.length c2 → Calls Tryz.prog 16 #[.pointer (some ⟨p, 0, none⟩)] W fun e w' => e = .returned (.int .i64 ((bs.length - t : Nat) : Int)) ∧ St17 w w' tree p A2 l.length c2) := fun W hW => (h.later hW.bel).left17.mono fun e w' h => ⟨h.1, hW.later h.2⟩
  have ND : Hid (∀ W, St17 w W tree p A2 l.length c2 → Calls Tryz.prog 10 #[.int .i64 tree, .int .i64 (l.length : Int)] W fun e w' => e = .returned (.int .i64 (lev15 l.length (capN (widN tree true))).sum) ∧ St17 w w' tree p A2 l.length c2) := fun W hW => (Nodes_any15 tree (l.length : Int) (capN (widN tree true)) rfl W).mono fun e w' h => ⟨by rw [h.1, levL15_right hr], hW.later h.2⟩
  obtain ⟨c0, c1, c2_⟩ := S0.cs
  have hcap := hE.cap
  have hmost := hE.most
  clear h hE hEB hr S0
  generalize (lev15 l.length (capN (widN tree true))).sum = need at *
  generalize bs.length - t = lf at *
  generalize l.length = N at *
  go_enter Tryz.func6, Tryz.ntmps6
  go_wp2_with (first
    | (go_at_call 8; (with_reducible refine (IM.out).mono ?_); rintro e w1 ⟨rfl, rfl⟩)
    | (go_at_call 15; (with_reducible refine (RT.out).mono ?_); rintro e w2 ⟨rfl, hS2⟩; obtain ⟨d0, d1, d2⟩ := hS2.cs))
  have hS3 := hS2.later (Below.refl w2.heap.size w2).drew
  have dd := hS3.cs
  go_region_held3 (fun W => W.cell? ⟨w.heap.size, 0, none⟩ = some (.pointer (some ⟨p, 0, none⟩)) ∧ W.cell? ⟨w.heap.size + 1, 0, none⟩ = some (.int .i64 tree) ∧ W.cell? ⟨w.heap.size + 2, 0, none⟩ = some (.slice A2 N c2))
    (first | assumption | exact ⟨d0, d1, d2⟩ | go_keep)
    (first
    | (go_at_call 16; (with_reducible refine (LF.out _ (by assumption)).mono ?_); rintro e w4 ⟨rfl, hS4⟩; have f4 := hS4.cs)
    | (go_at_call 10; (with_reducible refine (ND.out _ hS4).mono ?_); rintro e w5 ⟨rfl, hS5⟩; have f5 := hS5.cs))
  go_wp2
  go_ret2
  exact ⟨rfl, hS5.bel⟩
end
end Go.Proofs.YtnjlganofjkpfaaGreat

/-
  Layer 17: Tree, where there is a tree and room.
-/
namespace Go.Proofs.YtnjlganofjkpfaaGreat
open Go.RowKit
set_option linter.unusedVariables false
set_option linter.unusedSimpArgs false

section
variable {w : World} {q : Nat} {tree : Int} {l : List Ent17} {bs : List Int} {t : Nat} {L : List UInt8} {base p m B g : Nat} {A : Option Addr} {n c : Nat} {A2 : Option Addr} {n2 c2 : Nat}
theorem St17.made {W : World} (hS : St17 w W tree p A2 n2 c2) (h : AImg w base p m B g A n c bs t L) (hE : Ens w A2 n2 c2 l) (hfar : 0 < n2 → ∀ ad, A2 = some ad → ad.block ≠ g ∧ ad.block ≠ p) :
    Tr17 w ((W.alloc (.cells #[.int .i64 0] 3)).alloc (.cells #[.nilIface] 30)) W.heap.size tree bs base p m B g A n c t L A2 n2 c2 l 0 := by
  have b1 : Below W.heap.size W (W.alloc (.cells #[.int .i64 0] 3)) := (Below.refl _ _).alloc (Nat.le_refl _) _
  have h1 : Bx17 (W.alloc (.cells #[.int .i64 0] 3)) W.heap.size 3 (.int .i64 0) := heap_alloc_new W _
  obtain ⟨w1, e1⟩ : ∃ w1, W.alloc (.cells #[.int .i64 0] 3) = w1 := ⟨_, rfl⟩
  have s1 : w1.heap.size = W.heap.size + 1 := by rw [← e1]; simp
  rw [e1] at b1 h1 ⊢
  have b2 : Below w1.heap.size w1 (w1.alloc (.cells #[.nilIface] 30)) := (Below.refl _ _).alloc (Nat.le_refl _) _
  have h2 : Bx17 (w1.alloc (.cells #[.nilIface] 30)) (W.heap.size + 1) 30 .nilIface := by rw [← s1]; exact heap_alloc_new w1 _
  have hS2 := (hS.later b1).later b2
  refine ⟨h.later hS2.bel, hE.below hS2.bel, fun h0 ad e => ⟨(hfar h0 ad e).1, (hfar h0 ad e).2, .inl ?_⟩, Fr2.of_below hS2.bel _ _, h.alc.plt, hS.sz, by simp; omega, hS2.ba, hS2.bt, hS2.bl, h1.kept (b2.block _ (block_lt h1)), h2⟩
  have hl := hE.len
  obtain ⟨b', off', hA', hlt, _⟩ := hE.row.lit (by rw [entC_length]; omega)
  rw [hA'] at e
  injection e with e
  rw [← e]
  exact hlt

/-- a round of Tree's loop -/
structure Rd17 (w W : World) (br q : Nat) (tree : Int) (mm : Nat) (bs : List Int) (l : List Ent17) (t : Nat) (L : List UInt8) (base p m B g : Nat) (A : Option Addr) (n c k : Nat) (li l0 : List Ent17) (tk : Nat) (Lk : List UInt8) (A3 : Option Addr) (n3 c3 : Nat) (x : Int) : Prop where
  lv : Lvl17 q tree mm bs l t L k li tk Lk
  rt : 1 ≤ k → x = bs.getD (tk - 1) 0
  kv : l0.map kv17 = li.map kv17 ∨ (li.length = 1 ∧ 1 ≤ k)
  eb : EntB l0
  tr : Tr17 w W br tree bs base p m B g A n c tk Lk A3 n3 c3 l0 x
theorem Rd17.step {mm k tk br : Nat} {W : World} {li l0 : List Ent17} {Lk : List UInt8} {A3 : Option Addr} {n3 c3 : Nat} {x : Int} (h : Rd17 w W br q tree mm bs l t L base p m B g A n c k li l0 tk Lk A3 n3 c3 x) (hR : R17 tree mm l) (hB : Bs17 q bs) (hL : L.length = q * 256) (hf : (t : Int) + (lev15 l.length mm).sum ≤ (bs.length : Int)) (ht : i64b tree) (hk : k < (lev15 l.length mm).length) :
    Calls Tryz.prog 17 #[.bool ((k : Int) == 0), .pointer (some ⟨(br + 1), 0, none⟩), .pointer (some ⟨w.heap.size, 0, none⟩), .pointer (some ⟨w.heap.size + 1, 0, none⟩), .pointer (some ⟨w.heap.size + 2, 0, none⟩), .pointer (some ⟨br, 0, none⟩)] W fun e w' => e = .returned (.tuple #[]) ∧ ∃ li l0 tk Lk A3 n3 c3 x, Rd17 w w' br q tree mm bs l t L base p m B g A n c (k + 1) li l0 tk Lk A3 n3 c3 x := by
  obtain ⟨hF, _, hN⟩ := h.lv.step hR hB hL hf hk
  have hkv : l0.map kv17 = li.map kv17 := by
    rcases h.kv with e | ⟨e1, e2⟩
    · exact e
    · have := (h.lv.one e2).1 e1
      omega
  have hlf : ((k : Int) == 0) = decide (k = 0) := by
    by_cases e : k = 0
    · subst e; rfl
    · rw [decide_eq_false e]
      simp
      omega
  rw [hlf]
  have hlen := kv17_length hkv
  refine (level_any17 h.tr h.eb (hF.kv hkv) hB ht).mono ?_
  rintro e w' ⟨h1, A4, c4, h2⟩
  rw [hlen, levW17_kv hkv] at h2
  refine ⟨h1, _, _, _, _, A4, _, c4, _, ⟨hN, fun _ => rfl, ?_, h.eb.up17 _ _ _ _, h2⟩⟩
  by_cases h0 : l0 = []
  · right
    have : li.length = 0 := by rw [← hlen, h0]; rfl
    refine ⟨?_, by omega⟩
    rw [upL17_length, this]
    simp [fil15]
  · left
    rw [upP17_kv h0, upL17_kv hkv]

set_option maxRecDepth 100000 in
set_option maxHeartbeats 3200000 in
theorem Tree_good17 (h : AImg w base p m B g A n c bs t L) (hE : Ens w A2 n2 c2 l) (hfar : 0 < n2 → ∀ ad, A2 = some ad → ad.block ≠ g ∧ ad.block ≠ p) (hEB : EntB l) (hB : Bs17 q bs) (hL : L.length = q * 256) (ht : i64b tree) (hr : rightB17 tree l = true) (hs : (lev15 l.length (capN (widN tree true))).sum ≤ ((bs.length - t : Nat) : Int)) :
    Calls Tryz.prog 6 #[.pointer (some ⟨p, 0, none⟩), .int .i64 tree, .slice A2 n2 c2] w fun e w' => e = .returned (.tuple #[.int .i64 (bldB17 q tree (capN (widN tree true)) bs l t L).1, .nilIface]) ∧ AImg w' base p m B g A n c bs (bldB17 q tree (capN (widN tree true)) bs l t L).2.1 (bldB17 q tree (capN (widN tree true)) bs l t L).2.2 ∧ Fr2 w w' (some g) (some p) := by
  obtain rfl : n2 = l.length := hE.len.symm
  have S0 := St17.start w tree p A2 l.length c2
  obtain ⟨w3, e3⟩ : ∃ w3, ((w.alloc (.cells #[.pointer (some ⟨p, 0, none⟩)] 27)).alloc (.cells #[.int .i64 tree] 3)).alloc (.cells #[.slice A2 l.length c2] 23) = w3 := ⟨_, rfl⟩
  rw [e3] at S0
  have IM := Lib.hid (Image_yes16 (h.later S0.bel).alc)
  have RT : Hid (Calls Tryz.prog 15 #[.int .i64 tree, .slice A2 l.length c2] w3 fun e w' => e = .returned (.bool true) ∧ St17 w w' tree p A2 l.length c2) := (right_any17 tree w3 (hE.below S0.bel) hEB).mono fun e w' h => ⟨by rw [h.1, hr], S0.later h.2⟩
  have LF : Hid (∀ W, St17 w W tree p A2 l.length c2 → Calls Tryz.prog 16 #[.pointer (some ⟨p, 0, none⟩)] W fun e w' => e = .returned (.int .i64 ((bs.length - t : Nat) : Int)) ∧ St17 w w' tree p A2 l.length c2) := fun W hW => (h.later hW.bel).left17.mono fun e w' h => ⟨h.1, hW.later h.2⟩
  have ND : Hid (∀ W, St17 w W tree p A2 l.length c2 → Calls Tryz.prog 10 #[.int .i64 tree, .int .i64 (l.length : Int)] W fun e w' => e = .returned (.int .i64 (lev15 l.length (capN (widN tree true))).sum) ∧ St17 w w' tree p A2 l.length c2) := fun W hW => (Nodes_any15 tree (l.length : Int) (capN (widN tree true)) rfl W).mono fun e w' h => ⟨by rw [h.1, levL15_right hr], hW.later h.2⟩
  have MD : Hid (∀ W, St17 w W tree p A2 l.length c2 → Tr17 w ((W.alloc (.cells #[.int .i64 0] 3)).alloc (.cells #[.nilIface] 30)) W.heap.size tree bs base p m B g A n c t L A2 l.length c2 l 0) := fun W hW => hW.made h hE hfar
  have LV : Hid (∀ W br, Tr17 w W br tree bs base p m B g A n c t L A2 l.length c2 l 0 → Calls Tryz.prog 11 #[.int .i64 tree, .int .i64 (l.length : Int)] W fun e w' => ∃ A3 c3, e = .returned (.slice A3 (lev15 l.length (capN (widN tree true))).length c3) ∧ Hid (Rd17 w w' br q tree (capN (widN tree true)) bs l t L base p m B g A n c 0 l l t L A2 l.length c2 0)) := fun W br hW => by
    have := Levels_any15 tree (l.length : Int) (capN (widN tree true)) rfl W
    rw [levL15_right hr] at this
    refine this.mono ?_
    rintro e w' ⟨A3, c3, h1, _, h3⟩
    exact ⟨A3, c3, h1, ⟨Lvl17.zero, fun h => by omega, .inl rfl, hEB, hW.later h3⟩⟩
  have hR := rightB17_yes hr
  have h5 := lev15_few (n := l.length) hR.pos hR.few
  have hsum := (lev15_sum l.length (capN (widN tree true))).1
  have hf : (t : Int) + (lev15 l.length (capN (widN tree true))).sum ≤ (bs.length : Int) := by have := h.alc.ints.len; have := h.alc.le; omega
  have SP : Hid (∀ (W : World) (br k : Nat) (li l0 : List Ent17) (tk : Nat) (Lk : List UInt8) (A3 : Option Addr) (n3 c3 : Nat) (x : Int), k < (lev15 l.length (capN (widN tree true))).length → Rd17 w W br q tree (capN (widN tree true)) bs l t L base p m B g A n c k li l0 tk Lk A3 n3 c3 x → Calls Tryz.prog 17 #[.bool ((k : Int) == 0), .pointer (some ⟨(br + 1), 0, none⟩), .pointer (some ⟨w.heap.size, 0, none⟩), .pointer (some ⟨w.heap.size + 1, 0, none⟩), .pointer (some ⟨w.heap.size + 2, 0, none⟩), .pointer (some ⟨br, 0, none⟩)] W fun e w' => e = .returned (.tuple #[]) ∧ Hid (∃ li l0 tk Lk A3 n3 c3 x, Rd17 w w' br q tree (capN (widN tree true)) bs l t L base p m B g A n c (k + 1) li l0 tk Lk A3 n3 c3 x)) := fun W br k li l0 tk Lk A3 n3 c3 x hk hW => hW.step hR hB hL hf ht hk
  have END : Hid (∀ (W : World) (br : Nat) (li l0 : List Ent17) (tk : Nat) (Lk : List UInt8) (A3 : Option Addr) (n3 c3 : Nat) (x : Int), Rd17 w W br q tree (capN (widN tree true)) bs l t L base p m B g A n c (lev15 l.length (capN (widN tree true))).length li l0 tk Lk A3 n3 c3 x → bldB17 q tree (capN (widN tree true)) bs l t L = (x, tk, Lk)) := fun W br li l0 tk Lk A3 n3 c3 x hW => by
    have h1 : 1 ≤ (lev15 l.length (capN (widN tree true))).length := by rw [lev15, List.length_cons]; omega
    rw [(hW.lv.last rfl).1, hW.rt h1]
  have hmf : ∀ (fn : Fn) (first cap : Array Value) (w : World), (Instr.makeFunc fn first cap).run Tryz.prog w = .ok (.func fn first cap) w := fun _ _ _ _ => rfl
  obtain ⟨c0, c1, c2_⟩ := S0.cs
  have hcap := hE.cap
  have hmost := hE.most
  clear h hE hEB hr S0 hfar hB hL ht hR hf
  have hxs : ¬ ((bs.length - t : Nat) : Int) < (lev15 l.length (capN (widN tree true))).sum := by omega
  clear hs
  generalize bldB17 q tree (capN (widN tree true)) bs l t L = R at *
  generalize (lev15 l.length (capN (widN tree true))).sum = need at *
  generalize (lev15 l.length (capN (widN tree true))).length = K at *
  generalize bs.length - t = lf at *
  generalize l.length = N at *
  go_enter Tryz.func6, Tryz.ntmps6
  go_wp2_with (first
    | (go_at_call 8; (with_reducible refine (IM.out).mono ?_); rintro e w1 ⟨rfl, rfl⟩)
    | (go_at_call 15; (with_reducible refine (RT.out).mono ?_); rintro e w2 ⟨rfl, hS2⟩; obtain ⟨d0, d1, d2⟩ := hS2.cs))
  have hS3 := hS2.later (Below.refl w2.heap.size w2).drew
  have dd := hS3.cs
  go_region_held3 (fun W => W.cell? ⟨w.heap.size, 0, none⟩ = some (.pointer (some ⟨p, 0, none⟩)) ∧ W.cell? ⟨w.heap.size + 1, 0, none⟩ = some (.int .i64 tree) ∧ W.cell? ⟨w.heap.size + 2, 0, none⟩ = some (.slice A2 N c2))
    (first | assumption | exact ⟨d0, d1, d2⟩ | go_keep)
    (first
    | (go_at_call 16; (with_reducible refine (LF.out _ (by assumption)).mono ?_); rintro e w4 ⟨rfl, hS4⟩; have f4 := hS4.cs)
    | (go_at_call 10; (with_reducible refine (ND.out _ hS4).mono ?_); rintro e w5 ⟨rfl, hS5⟩; have f5 := hS5.cs))
  have hT6 := MD.out w5 hS5
  obtain ⟨w6, e6⟩ : ∃ w6, (w5.alloc (.cells #[.int .i64 0] 3)).alloc (.cells #[.nilIface] 30) = w6 := ⟨_, rfl⟩
  rw [e6] at hT6
  obtain ⟨br, hbr⟩ : ∃ br, w5.heap.size = br := ⟨_, rfl⟩
  rw [hbr] at hT6
  have g1 := hT6.bt.cell
  have g2 := hT6.bl.cell
  have HT6 := Lib.hid hT6
  clear hT6 hS5 hS4 hS3 hS2 dd d0 d1 d2 f4 f5 IM RT LF ND MD
  go_wp2_with (go_at_call 11; (with_reducible refine (LV.out _ _ HT6.out).mono ?_); rintro e w7 ⟨A3, c3, rfl, hR7⟩)
  clear LV HT6 g1 g2
  go_loopw [35] (fun i wr => ∃ k : Nat, k ≤ K ∧ i = .int .i64 k ∧ Hid (∃ li l0 tk Lk A3 n3 c3 x, Rd17 w wr br q tree (capN (widN tree true)) bs l t L base p m B g A n c k li l0 tk Lk A3 n3 c3 x)) (fun i _ => K - (intOf i).toNat)
  case atStart => exact ⟨0, by omega, rfl, _, _, _, _, _, _, _, _, hR7.out⟩
  case round =>
    clear hR7
    obtain ⟨k, hk, rfl, li, l0, tk, Lk, A4, n4, c4, x, hR8⟩ := hrel
    by_cases hlt : k < K
    · have SPk := Lib.hid (SP.out wr br k li l0 tk Lk A4 n4 c4 x hlt hR8)
      clear SP END hR8
      go_wp2_with (go_at_call 17; (with_reducible refine (SPk.out).mono ?_); rintro e w8 ⟨rfl, hR9⟩)
      go_roundw
      case rel => exact ⟨k + 1, by omega, by go_num, hR9.out⟩
      case measure => simp [intOf]; omega
    · obtain rfl : k = K := by omega
      have hEnd := END.out _ _ _ _ _ _ _ _ _ _ hR8
      have cr := hR8.tr.br_.cell
      have cf := hR8.tr.bf.cell
      have HA := Lib.hid (And.intro hR8.tr.ai hR8.tr.fr)
      subst hEnd
      clear SP END hR8
      go_wp2
      go_quiet (fail)
      go_wp2
      go_ret2
      exact ⟨rfl, HA.out.1.later (below_drewN (Below.refl _ _) _), HA.out.2.trans (Fr2.of_below (below_drewN (Below.refl _ _) _) _ _)⟩
end
end Go.Proofs.YtnjlganofjkpfaaGreat

/-
  Layer 17: Tree, for all entries.
-/
namespace Go.Proofs.YtnjlganofjkpfaaGreat
open Go.RowKit
set_option linter.unusedVariables false
set_option linter.unusedSimpArgs false

section
variable {w : World} {q : Nat} {tree : Int} {l : List Ent17} {bs : List Int} {t : Nat} {L : List UInt8} {base p m B g : Nat} {A : Option Addr} {n c : Nat} {A2 : Option Addr} {n2 c2 : Nat}
theorem Tree_any17 (h : AImg w base p m B g A n c bs t L) (hE : Ens w A2 n2 c2 l) (hfar : 0 < n2 → ∀ ad, A2 = some ad → ad.block ≠ g ∧ ad.block ≠ p) (hEB : EntB l) (hB : Bs17 q bs) (hL : L.length = q * 256) (ht : i64b tree) :
    Calls Tryz.prog 6 #[.pointer (some ⟨p, 0, none⟩), .int .i64 tree, .slice A2 n2 c2] w fun e w' => e = .returned (.tuple #[.int .i64 (outB17 q tree bs l t L).root, errV17 (outB17 q tree bs l t L).x]) ∧ AImg w' base p m B g A n c bs (outB17 q tree bs l t L).t (outB17 q tree bs l t L).L ∧ Fr2 w w' (some g) (some p) := by
  cases hr : rightB17 tree l with
  | false =>
    rw [outB17_arg hr]
    exact (Tree_bad17 h hE hEB hr).mono fun e w' ⟨h1, h2⟩ => ⟨h1, h.later h2, Fr2.of_below h2 _ _⟩
  | true =>
    by_cases hs : ((bs.length - t : Nat) : Int) < (lev15 l.length (capN (widN tree true))).sum
    · rw [outB17_space hr hs]
      exact (Tree_space17 h hE hEB hr hs).mono fun e w' ⟨h1, h2⟩ => ⟨h1, h.later h2, Fr2.of_below h2 _ _⟩
    · rw [outB17_good hr (by omega)]
      exact Tree_good17 h hE hfar hEB hB hL ht hr (by omega)
end
end Go.Proofs.YtnjlganofjkpfaaGreat

/-
  Layer 17: what the statements make: an allocator, entries; the document's example.
-/
namespace Go.Proofs.YtnjlganofjkpfaaGreat
open Go.RowKit
set_option linter.unusedVariables false
set_option linter.unusedSimpArgs false

abbrev zero17 (n : Nat) : List UInt8 := List.replicate n 0
theorem make17 (n : Nat) (hn : n ≤ 3600000) (W : World) : (Instr.makeSlice 22 (.int .i64 (n : Int)) (.int .i64 (n : Int))).run Tryz.prog W = .ok (.slice (some ⟨W.heap.size, 0, none⟩) n n) (W.alloc (.cells (u8s (zero17 n)).toArray 5)) := by
  have e : madeCells #[Value.int .u8 0] n = (u8s (zero17 n)).toArray := by
    apply Array.ext'
    rw [zeros_u8]
  rw [← e]
  exact run_make_row' 22 5 (.int .u8 0) 1 Tryz.underlying22 info_u8 rfl _ _ n (by omega) (by omega) W
theorem made17_bytes (W : World) (n : Nat) (hn : n ≤ 3600000) : Bytes8 (W.alloc (.cells (u8s (zero17 n)).toArray 5)) (some ⟨W.heap.size, 0, none⟩) n n (zero17 n) :=
  ⟨by simp, Nat.le_refl _, by omega, Row.of_block (t := 5) (fr := (0, 0)) (heap_alloc_new W _)⟩

/-- an allocator that was made: or there is none -/
def Md17 (w W : World) (q : Nat) (f : Int) (va : Value) : Prop :=
  ((f < 1 ∨ (q : Int) < f) ∧ va = .pointer none) ∨ (¬ (f < 1 ∨ (q : Int) < f) ∧ ∃ base p m g A n c, va = .pointer (some ⟨p, 0, none⟩) ∧ AImg W base p m w.heap.size g A n c (seq16 f.toNat q) 0 (zero17 (q * 256)) ∧ w.heap.size ≤ base)
theorem Md17.later {w W W' : World} {q : Nat} {f : Int} {va : Value} (h : Md17 w W q f va) (hb : Below W.heap.size W W') : Md17 w W' q f va := by
  rcases h with h | ⟨h1, base, p, m, g, A, n, c, h2, h3, h4⟩
  · exact .inl h
  · exact .inr ⟨h1, base, p, m, g, A, n, c, h2, h3.later hb, h4⟩

set_option maxRecDepth 100000 in
set_option maxHeartbeats 1600000 in
theorem made_any17 (q : Nat) (f : Int) (w : World) (hq : q ≤ 1000) :
    Calls Tryz.prog 5 #[.int .i64 (q : Int), .int .i64 f] w fun e w' => ∃ va, e = .returned va ∧ Md17 w w' q f va ∧ Below w.heap.size w w' := by
  have mk := make17 (q * 256) (by omega) w
  have hb1 : Below w.heap.size w (w.alloc (.cells (u8s (zero17 (q * 256))).toArray 5)) := (Below.refl _ _).alloc (Nat.le_refl _) _
  have OF : Hid (Calls Tryz.prog 14 #[.slice (some ⟨w.heap.size, 0, none⟩) (q * 256) (q * 256)] (w.alloc (.cells (u8s (zero17 (q * 256))).toArray 5)) fun e w' => ∃ m g, e = .returned (.pointer (some ⟨m, 0, none⟩)) ∧ Img w' w.heap.size m g (zero17 (q * 256)) ∧ Below w.heap.size w w') := by
    refine (Of_any _ (q * 256) (q * 256) _ _ (made17_bytes w (q * 256) (by omega))).mono ?_
    rintro e w' ⟨m, g, h1, h2, h3⟩
    have e : whole (q * 256) * 256 = q * 256 := by unfold whole; omega
    rw [e, List.take_of_length_le (by simp)] at h2
    exact ⟨m, g, h1, h2.down hb1.size, hb1.trans (h3.mono hb1.size)⟩
  have hL : (zero17 (q * 256)).length = q * 256 := by simp
  have NW : Hid (∀ W m g, Img W w.heap.size m g (zero17 (q * 256)) → Below w.heap.size w W → Calls Tryz.prog 13 #[.pointer (some ⟨m, 0, none⟩), .int .i64 f] W fun e w' => ∃ va ve, e = .returned (.tuple #[va, ve]) ∧ Hid (Md17 w w' q f va) ∧ Below w.heap.size w w') := fun W m g hI hb => by
    by_cases hf : f < 1 ∨ (q : Int) < f
    · refine (New_bad16 f hI hL hf).mono ?_
      rintro e w' ⟨h1, rfl⟩
      exact ⟨_, _, h1, .inl ⟨hf, rfl⟩, hb⟩
    · obtain ⟨j, rfl⟩ := Int.eq_ofNat_of_zero_le (show 0 ≤ f by omega)
      refine (New_good16 j hI hL (by omega) (by omega)).mono ?_
      rintro e w' ⟨p, A2, c2, h1, h2, h3⟩
      exact ⟨_, _, h1, .inr ⟨hf, _, p, m, g, A2, _, c2, rfl, by rw [Int.toNat_natCast]; exact ⟨h2, hI.later h3, hI.plt, hI.glt⟩, hb.size⟩, hb.trans (h3.mono hb.size)⟩
  obtain ⟨n, hn⟩ : ∃ n, q * 256 = n := ⟨_, rfl⟩
  rw [show ((q * 256 : Nat) : Int) = 256 * (q : Int) by omega] at mk
  rw [hn] at mk OF
  simp only [hn] at NW
  clear hb1 hL hn
  go_enter Tryz.func5, Tryz.ntmps5
  go_wp2_with (first
    | (go_at_call 14; (with_reducible refine (OF.out).mono ?_); rintro e w2 ⟨m, g, rfl, hI2, hb2⟩)
    | (go_at_call 13; (with_reducible refine (NW.out _ _ _ hI2 hb2).mono ?_); rintro e w3 ⟨va, ve, rfl, hM3, hb3⟩))
  go_ret
  exact ⟨va, rfl, hM3.out, hb3⟩

/-- entries of a tree -/
def some17 (wd n : Nat) : List Ent17 := (List.range n).map fun i : Nat => (3 * (i : Int), zero17 wd, 0)
theorem some17_length (wd n : Nat) : (some17 wd n).length = n := by simp [some17]
theorem some17_succ (wd n : Nat) : some17 wd (n + 1) = some17 wd n ++ [(3 * (n : Int), zero17 wd, 0)] := by simp [some17, List.range_succ]
theorem tree17_width (T : Nat) (h : 1 ≤ T ∧ T ≤ 5) (W : World) : (W.alloc (.cells #[.int .i64 0, .int .i64 4, .int .i64 8, .int .i64 24, .int .i64 16, .int .i64 4] 3)).cell? ⟨W.heap.size, T, none⟩ = some (.int .i64 ((widN (T : Int) true : Nat) : Int)) := by
  rw [cell_of_row _ W.heap.size T _ _ _ (heap_alloc_new W _)]
  rcases (show T = 1 ∨ T = 2 ∨ T = 3 ∨ T = 4 ∨ T = 5 by omega) with rfl | rfl | rfl | rfl | rfl <;> rfl

set_option maxRecDepth 100000 in
set_option maxHeartbeats 1600000 in
theorem some_any17 (T n : Nat) (hT : 1 ≤ T ∧ T ≤ 5) (hn : n ≤ 1000) (w : World) :
    Calls Tryz.prog 4 #[.int .i64 (n : Int), .int .i64 (T : Int)] w fun e w' => ∃ v, e = .returned v ∧ w'.ownsRow w.heap.size 26 3 v n (entC (some17 (widN (T : Int) true) n)) ∧ Below w.heap.size w w' := by
  have TW := Lib.hid (fun W => tree17_width T hT W)
  have hw24 : widN (T : Int) true ≤ 24 := by rcases widN_cases (T : Int) true with ⟨h1, _⟩ | ⟨h1, _⟩ | ⟨h1, _⟩ | ⟨h1, _⟩ | ⟨h1, _⟩ <;> omega
  obtain ⟨hT1, hT5⟩ := hT
  have hT6 : T < 6 := by omega
  have hT6i : (T : Int) < 6 := by omega
  generalize widN (T : Int) true = wd at *
  go_enter Tryz.func4, Tryz.ntmps4
  go_wp2
  go_loopw [5, 6] (fun v i wr => ∃ k : Nat, k ≤ n ∧ i = .int .i64 k ∧ Hid (wr.ownsRow w.heap.size 26 3 v k (entC (some17 wd k))) ∧ Hid (Below w.heap.size w wr)) (fun _ i _ => n - (intOf i).toNat)
  case atStart => exact ⟨0, by omega, rfl, World.ownsRow_nil _ _ _ _, Below.refl _ _⟩
  case round =>
    obtain ⟨k, hk, rfl, hown, hb⟩ := hrel
    by_cases hlt : k < n
    · have hc := TW.out wr
      have hsz := hb.out.size
      have b1 : Below wr.heap.size wr (wr.alloc (.cells #[.int .i64 0, .int .i64 4, .int .i64 8, .int .i64 24, .int .i64 16, .int .i64 4] 3)) := (Below.refl _ _).alloc (Nat.le_refl _) _
      obtain ⟨w1, e1⟩ : ∃ w1, wr.alloc (.cells #[.int .i64 0, .int .i64 4, .int .i64 8, .int .i64 24, .int .i64 16, .int .i64 4] 3) = w1 := ⟨_, rfl⟩
      rw [e1] at hc b1
      have mk := make17 wd (by omega) w1
      have hB8 := made17_bytes w1 wd (by omega)
      have b2 : Below w1.heap.size w1 (w1.alloc (.cells (u8s (zero17 wd)).toArray 5)) := (Below.refl _ _).alloc (Nat.le_refl _) _
      obtain ⟨w2, e2⟩ : ∃ w2, w1.alloc (.cells (u8s (zero17 wd)).toArray 5) = w2 := ⟨_, rfl⟩
      rw [e2] at mk hB8 b2
      have cv := run_str hB8
      obtain ⟨s, hs⟩ : ∃ s : ByteArray, (⟨(zero17 wd).toArray⟩ : ByteArray) = s := ⟨_, rfl⟩
      rw [hs] at cv
      have HS := Lib.hid hs
      have b12 : Below wr.heap.size wr w2 := b1.trans (b2.mono b1.size)
      have HO2 : Hid (w2.ownsRow w.heap.size 26 3 u5 k (entC (some17 wd k))) := own_keptS hown.out (fun j _ hj => b12.block j hj)
      have HB2 := Lib.hid (hb.out.trans (b12.mono hb.out.size))
      have hs2 : w.heap.size ≤ w2.heap.size := Nat.le_trans hb.out.size b12.size
      have HST := Lib.hid (some17_succ wd k)
      clear hs hB8 b1 b2 b12 hown hb
      go_wp2_with (at_builtin; refine wpList_append_newS w2 rfl (.tmp 12) (.tmp 22) 23 rfl w.heap.size 26 26 3 (.agg #[.int .i64 0, .string ByteArray.empty, .int .i64 0]) 32 Tryz.underlying23 info_ent17 rfl (by omega) u5 k (entC (some17 wd k)) rfl HO2 hs2 [.int .i64 (3 * (k : Int)), .string s, .int .i64 0] 1 1 rfl rfl (by simp [Value.oneCell']) (by omega) (by omega) ?_; intro v3 w3 hown3 hs3 hb3)
      go_roundw
      case rel => exact ⟨k + 1, by omega, by go_num, by
        have h9 := hown3.out
        rw [HST.out, entC_snoc]
        have e9 : entC [(3 * (k : Int), zero17 wd, (0 : Int))] = [.int .i64 (3 * (k : Int)), .string s, .int .i64 0] := by rw [← HS.out]; rfl
        rw [e9]
        exact h9, HB2.out.trans hb3⟩
      case measure => simp [intOf]; omega
    · obtain rfl : k = n := by omega
      go_wp2
      go_ret
      exact ⟨_, rfl, hown.out, hb.out⟩
end Go.Proofs.YtnjlganofjkpfaaGreat

/-
  Layer 17: the document's example.
-/
namespace Go.Proofs.YtnjlganofjkpfaaGreat
open Go.RowKit
set_option linter.unusedVariables false
set_option linter.unusedSimpArgs false

theorem some17_entB {wd : Nat} (hw : wd ≤ 24) {n : Nat} (hn : n ≤ 1000) : EntB (some17 wd n) := by
  intro q hq
  obtain ⟨i, hi, rfl⟩ := List.mem_map.1 hq
  have := List.mem_range.1 hi
  exact ⟨⟨by show -9223372036854775808 ≤ 3 * (i : Int); omega, by show 3 * (i : Int) ≤ _; omega⟩, by simp; omega⟩
theorem wide17 {T : Nat} (hT : 1 ≤ T ∧ T ≤ 5) : widN (T : Int) true ≤ 24 ∧ 6 ≤ capN (widN (T : Int) true) ∧ capN (widN (T : Int) true) ≤ 18 := by
  rcases (show T = 1 ∨ T = 2 ∨ T = 3 ∨ T = 4 ∨ T = 5 by omega) with rfl | rfl | rfl | rfl | rfl <;> decide
/-- entries whose keys rise are a tree's -/
theorem right17_of {tree : Int} {l : List Ent17} (hc : capN (widN tree true) ≠ 0) (hl : l.length ≤ 32768) (hk : ∀ e ∈ l, 0 ≤ e.1 ∧ e.1 ≤ maxK ∧ e.2.1.length = widN tree true) (hu : ∀ i, i + 1 < l.length → key17 l i < key17 l (i + 1)) : rightB17 tree l = true := by
  refine rightB17_of hc hl fun i hi => at17_yes.2 ?_
  have h1 := hk _ (List.getElem_mem hi)
  rw [key17_at hi, val17_at hi]
  refine ⟨h1.1, h1.2.1, ?_, h1.2.2⟩
  by_cases h0 : i = 0
  · exact .inl h0
  · right
    have := hu (i - 1) (by omega)
    rw [show i - 1 + 1 = i by omega, key17_at hi] at this
    exact this
theorem some17_right {T n : Nat} (hT : 1 ≤ T ∧ T ≤ 5) (hn : n ≤ 1000) : rightB17 (T : Int) (some17 (widN (T : Int) true) n) = true := by
  have hw := wide17 hT
  have hK : maxK = 281474976710655 := rfl
  refine right17_of (by omega) (by rw [some17_length]; omega) (fun e he => ?_) (fun i hi => ?_)
  · obtain ⟨i, hi, rfl⟩ := List.mem_map.1 he
    have := List.mem_range.1 hi
    exact ⟨by show 0 ≤ 3 * (i : Int); omega, by show 3 * (i : Int) ≤ maxK; omega, by simp⟩
  · rw [some17_length] at hi
    rw [key17_at (by rw [some17_length]; omega), key17_at (by rw [some17_length]; omega)]
    simp only [some17, List.getElem_map, List.getElem_range]
    omega
/-- what Tree answers over the blocks from f on, where there is room -/
theorem out17_room {q f need : Nat} {tree : Int} {l : List Ent17} {L : List UInt8} (hr : rightB17 tree l = true) (hneed : (lev15 l.length (capN (widN tree true))).sum = (need : Int)) (hroom : need ≤ q - f) :
    (outB17 q tree (seq16 f q) l 0 L).x = 0 ∧ (outB17 q tree (seq16 f q) l 0 L).root = ((f + need - 1 : Nat) : Int) ∧ (outB17 q tree (seq16 f q) l 0 L).t = need ∧ (outB17 q tree (seq16 f q) l 0 L).L = (bldB17 q tree (capN (widN tree true)) (seq16 f q) l 0 L).2.2 ∧ (bldB17 q tree (capN (widN tree true)) (seq16 f q) l 0 L).2.1 = need ∧ (bldB17 q tree (capN (widN tree true)) (seq16 f q) l 0 L).1 = ((f + need - 1 : Nat) : Int) := by
  have h1 : (lev15 l.length (capN (widN tree true))).sum ≤ (((seq16 f q).length - 0 : Nat) : Int) := by rw [hneed, seq16_length]; omega
  have ht := bldB17_taken q tree (capN (widN tree true)) (seq16 f q) l 0 L
  have hrt := bldB17_root q tree (capN (widN tree true)) (seq16 f q) l 0 L
  have hp := (lev15_sum l.length (capN (widN tree true))).1
  rw [hneed] at ht hp
  have e1 : (bldB17 q tree (capN (widN tree true)) (seq16 f q) l 0 L).2.1 = need := by omega
  rw [e1, seq16_getD (by omega)] at hrt
  have e2 : f + (need - 1) = f + need - 1 := by omega
  rw [e2] at hrt
  rw [outB17_good hr h1]
  exact ⟨rfl, hrt, e1, rfl, e1, hrt⟩
/-- an allocator and entries made behind it -/
theorem Ens.behind17 {w1 w2 : World} {n : Nat} {v : Value} {l : List Ent17} (h : w2.ownsRow w1.heap.size 26 3 v n (entC l)) {g p : Nat} (hg : g < w1.heap.size) (hp : p < w1.heap.size) : ∃ A c, v = .slice A n c ∧ Ens w2 A n c l ∧ ∀ ad, A = some ad → ad.block ≠ g ∧ ad.block ≠ p := by
  obtain ⟨A, c, rfl, hE⟩ := Ens.of_own h
  refine ⟨A, c, rfl, hE, fun ad e => ?_⟩
  have := Newer.of_own h ad e
  omega
/-- what an allocator that was made builds of entries made behind it -/
theorem Md17.tree {w w1 w2 : World} {q : Nat} {f : Int} {va v : Value} {T n : Nat} {l : List Ent17} (h : Md17 w w1 q f va) (hb : Below w1.heap.size w1 w2) (hf : ¬ (f < 1 ∨ (q : Int) < f)) (hq : q ≤ 1000) (hT : 1 ≤ T ∧ T ≤ 5) (hl : EntB l) (ho : w2.ownsRow w1.heap.size 26 3 v n (entC l)) :
    ∃ base p m g A n' c, va = .pointer (some ⟨p, 0, none⟩) ∧ w.heap.size ≤ base ∧ Calls Tryz.prog 6 #[.pointer (some ⟨p, 0, none⟩), .int .i64 (T : Int), v] w2 fun e w' => e = .returned (.tuple #[.int .i64 (outB17 q T (seq16 f.toNat q) l 0 (zero17 (q * 256))).root, errV17 (outB17 q T (seq16 f.toNat q) l 0 (zero17 (q * 256))).x]) ∧ AImg w' base p m w.heap.size g A n' c (seq16 f.toNat q) (outB17 q T (seq16 f.toNat q) l 0 (zero17 (q * 256))).t (outB17 q T (seq16 f.toNat q) l 0 (zero17 (q * 256))).L ∧ Fr2 w2 w' (some g) (some p) := by
  rcases h with ⟨h1, _⟩ | ⟨_, base, p, m, g, A, n', c, rfl, h3, h4⟩
  · exact absurd h1 hf
  · have hpl := h3.alc.plt
    have hgl := h3.img.glt
    obtain ⟨A2, c2, rfl, hE, hfar⟩ := Ens.behind17 ho hgl hpl
    refine ⟨base, p, m, g, A, n', c, rfl, h4, Tree_any17 (h3.later hb) hE (fun _ => hfar) hl (seq17_bs (by omega) (by omega)) (by simp) ?_⟩
    simp only [i64b]
    omega

theorem live17_sum : (lev15 13 (capN (widN ((2 : Nat) : Int) true))).sum = ((3 : Nat) : Int) := by
  have e : capN (widN ((2 : Nat) : Int) true) = 12 := by decide
  have e1 : fil15 13 12 = 2 := by decide
  have e2 : fil15 2 18 = 1 := by decide
  rw [e, lev15, e1, up15_more (by omega), e2, up15_one (by omega)]
  rfl
set_option maxRecDepth 100000 in
set_option maxHeartbeats 1600000 in
theorem lives17_any (w : World) : Calls Tryz.prog 12 #[] w fun e w' => e = .returned (.bool true) ∧ Below w.heap.size w w' := by
  have MD : Hid (Calls Tryz.prog 5 #[.int .i64 9, .int .i64 5] w fun e w' => ∃ p, e = .returned (.pointer (some ⟨p, 0, none⟩)) ∧ Hid (Md17 w w' 9 5 (.pointer (some ⟨p, 0, none⟩))) ∧ Below w.heap.size w w') := by
    refine (made_any17 9 5 w (by omega)).mono ?_
    rintro e w' ⟨va, rfl, h2, h3⟩
    rcases h2 with ⟨h1, _⟩ | ⟨h1, base, p, m, g, A, n, c, rfl, h4⟩
    · exact absurd h1 (by omega)
    · exact ⟨p, rfl, .inr ⟨h1, base, p, m, g, A, n, c, rfl, h4⟩, h3⟩
  have SM : Hid (∀ W, Calls Tryz.prog 4 #[.int .i64 13, .int .i64 2] W fun e w' => ∃ v, e = .returned v ∧ w'.ownsRow W.heap.size 26 3 v 13 (entC (some17 (widN ((2 : Nat) : Int) true) 13)) ∧ Below W.heap.size W w') := fun W => some_any17 2 13 (by omega) (by omega) W
  have TR : Hid (∀ W W2 p v, Hid (Md17 w W 9 5 (.pointer (some ⟨p, 0, none⟩))) → Below w.heap.size w W → Below W.heap.size W W2 → W2.ownsRow W.heap.size 26 3 v 13 (entC (some17 (widN ((2 : Nat) : Int) true) 13)) → Calls Tryz.prog 6 #[.pointer (some ⟨p, 0, none⟩), .int .i64 2, v] W2 fun e w' => e = .returned (.tuple #[.int .i64 7, .nilIface]) ∧ Hid (Below w.heap.size w w' ∧ Calls Tryz.prog 9 #[.pointer (some ⟨p, 0, none⟩)] w' fun e w2 => e = .returned (.int .i64 3) ∧ w' = w2)) := fun W W2 p v hM hb hb2 ho => by
    obtain ⟨base, p', m, g, A, n', c, hv, hlo, hC⟩ := Md17.tree (T := 2) hM.out hb2 (by omega) (by omega) (by omega) (some17_entB (by decide) (by omega)) ho
    injection hv with hv
    injection hv with hv
    injection hv with hv
    subst hv
    have hr := some17_right (T := 2) (n := 13) (by omega) (by omega)
    obtain ⟨o1, o2, o3, _⟩ := out17_room (q := 9) (f := 5) (L := zero17 (9 * 256)) hr (by rw [some17_length]; exact live17_sum) (by omega)
    have e5 : (5 : Int).toNat = 5 := rfl
    rw [e5, o1, o2, o3] at hC
    refine hC.mono ?_
    rintro e w' ⟨h1, h2, h3⟩
    refine ⟨h1, ?_, Used_yes16 h2.alc⟩
    have e1 := hb.trans (hb2.mono hb.size)
    have hbg := h2.img.bg
    have hbp := h2.alc.bp
    exact ⟨h3.os.trans e1.os, h3.tape.trans e1.tape, h3.output.trans e1.output, Nat.le_trans e1.size h3.size, fun k hk => (h3.block k (Nat.lt_of_lt_of_le hk e1.size) (fun e => by injection e; omega) (fun e => by injection e; omega)).trans (e1.block k hk)⟩
  go_enter Tryz.func12, Tryz.ntmps12
  go_wp2_with (first
    | (go_at_call 5; (with_reducible refine (MD.out).mono ?_); rintro e w1 ⟨p, rfl, hM1, hb1⟩)
    | (go_at_call 4; (with_reducible refine (SM.out _).mono ?_); rintro e w2 ⟨v, rfl, ho2, hb2⟩)
    | (go_at_call 6; (with_reducible refine (TR.out _ _ _ _ hM1 hb1 hb2 ho2).mono ?_); rintro e w3 ⟨rfl, hX3⟩)
    | (go_at_call 9; (with_reducible refine (hX3.out.2).mono ?_); rintro e w4 ⟨rfl, rfl⟩))
  go_ret
  exact ⟨rfl, hX3.out.1⟩

theorem tree17_in (x : Int) : ∃ T : Nat, wrap64 (1 + (wrap64 (x.tmod 5 + 5)).tmod 5) = (T : Int) ∧ 1 ≤ T ∧ T ≤ 5 := by
  have h1 := Int.tmod_lt_of_pos x (show (0 : Int) < 5 by omega)
  have h2 := Int.lt_tmod_of_pos x (show (0 : Int) < 5 by omega)
  generalize x.tmod 5 = y at *
  have e : wrap64 (y + 5) = y + 5 := by unfold wrap64; omega
  rw [e]
  have h3 := Int.tmod_lt_of_pos (y + 5) (show (0 : Int) < 5 by omega)
  have h4 := Int.tmod_nonneg 5 (show 0 ≤ y + 5 by omega)
  generalize (y + 5).tmod 5 = z at *
  have e2 : wrap64 (1 + z) = 1 + z := by unfold wrap64; omega
  rw [e2]
  exact ⟨(1 + z).toNat, by omega, by omega, by omega⟩
theorem and17_511 (n : Int) : ∃ N : Nat, bits .and .i64 n 511 = (N : Int) ∧ N ≤ 511 := by
  have hm : (BitVec.ofInt 64 511).toNat = 2 ^ 9 - 1 := by decide
  have key : (BitVec.ofInt 64 n &&& BitVec.ofInt 64 511).toNat = (n % ((2 ^ 64 : Nat) : Int)).toNat % 2 ^ 9 := by
    rw [BitVec.toNat_and, BitVec.toNat_ofInt, hm, Nat.and_two_pow_sub_one_eq_mod]
  refine ⟨(BitVec.ofInt 64 n &&& BitVec.ofInt 64 511).toNat, ?_, by rw [key]; omega⟩
  show IntKind.i64.wrap ((BitVec.ofInt 64 n &&& BitVec.ofInt 64 511).toNat : Nat) = _
  rw [IntKind.wrap_i64, key]
  omega
/-- how many nodes -/
theorem need17 {T n : Nat} (hT : 1 ≤ T ∧ T ≤ 5) (hn : n ≤ 511) : ∃ k : Nat, (lev15 n (capN (widN (T : Int) true))).sum = (k : Int) ∧ 1 ≤ k ∧ k ≤ 172 ∧ levL15 (capN (widN (T : Int) true)) (n : Int) = lev15 n (capN (widN (T : Int) true)) := by
  obtain ⟨_, h6, _⟩ := wide17 hT
  have hs := lev15_sum n (capN (widN (T : Int) true))
  have hl : levL15 (capN (widN (T : Int) true)) (n : Int) = lev15 n (capN (widN (T : Int) true)) := by
    rw [levL15_some (by simp [some15]; omega), Int.toNat_natCast]
  generalize capN (widN (T : Int) true) = m at *
  have hf : fil15 n m ≤ 86 := by
    unfold fil15
    have h1 : (max n 1 - 1) / m ≤ (max n 1 - 1) / 6 := Nat.div_le_div_left h6 (by omega)
    omega
  exact ⟨(lev15 n m).sum.toNat, by omega, by omega, by omega, hl⟩

end Go.Proofs.YtnjlganofjkpfaaGreat
