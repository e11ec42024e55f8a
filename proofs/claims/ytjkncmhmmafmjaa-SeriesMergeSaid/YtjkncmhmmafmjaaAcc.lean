/- The contracts of the closures of Merge (package sample): each adds one sample to what was collected. -/
import Derived.Test.YtjkncmhmmafmjaaCmp
import Derived.Deep.RegionWith
namespace Go.Proofs.Ytjkncmhmmafmjaa
open Go.RowKit
set_option linter.unusedVariables false
set_option linter.unusedSimpArgs false

/-- Block m holds the slice that was collected so far, block m + 1 the closure that adds to it. -/
structure Mg (w : World) (m : Nat) (acc : List Smp) : Prop where
  ex : ∃ vm, Blk w m 29 #[vm] ∧ w.ownsRow (m + 2) 27 3 vm acc.length (cellsOf acc)
  add : Blk w (m + 1) 72 #[.func (.func 43) #[] #[.pointer (some ⟨m, 0, none⟩)]]

theorem Mg.below {w w' : World} {m : Nat} {acc : List Smp} (h : Mg w m acc) (hb : Below w.heap.size w w') : Mg w' m acc := by
  obtain ⟨⟨vm, h1, h2⟩, h3⟩ := h
  have hm := h1.lt
  have hm1 := h3.lt
  exact ⟨⟨vm, h1.below hb hm, own_keep h2 fun b _ _ hh => hb.block b (lt_of_heap hh)⟩, h3.below hb hm1⟩
theorem Mg.lt {w : World} {m : Nat} {acc : List Smp} (h : Mg w m acc) : m + 1 < w.heap.size := h.add.lt

theorem Blk.setOther {w : World} {b : Nat} {t : TypeId} {cs : Array Value} (h : Blk w b t cs) {p : Addr} (hp : b ≠ p.block) (u : Value) : Blk (w.setCell p u) b t cs :=
  (Below.heap_setCell w p u b hp).trans h
theorem Blk.setOne {w : World} {b : Nat} {t : TypeId} {v : Value} (h : Blk w b t #[v]) (u : Value) : Blk (w.setCell ⟨b, 0, none⟩ u) b t #[u] := by
  unfold Blk at h ⊢
  simp [World.setCell, Array.getElem?_modify, h]
theorem own_setOther {w : World} {base n : Nat} {e : TypeId} {size : Nat} {v : Value} {xs : List Value} (h : w.ownsRow base e size v n xs) {p : Addr} (hp : ∀ (cur : Array Value) (fr : Nat × Nat), w.heap[p.block]? ≠ some (Obj.cells cur e fr)) (u : Value) :
    (w.setCell p u).ownsRow base e size v n xs :=
  own_keep h fun b cur fr hh => Below.heap_setCell _ _ _ _ (fun hbp => by subst hbp; exact hp _ _ hh)
theorem Blk.no {w : World} {b : Nat} {t e : TypeId} {cs : Array Value} (h : Blk w b t cs) (he : t ≠ e) (cur : Array Value) (fr : Nat × Nat) : w.heap[b]? ≠ some (Obj.cells cur e fr) := by
  unfold Blk at h
  rw [h]
  intro hh
  injection hh with hh
  injection hh with _ hh
  exact he hh

set_option maxRecDepth 100000 in
set_option maxHeartbeats 1000000 in
theorem add_any (x : Smp) (m : Nat) (acc : List Smp) (w : World) (hM : Mg w m acc) (hlen : acc.length ≤ 1000000) :
    Calls Try.prog 43 #[x.agg, .pointer (some ⟨m, 0, none⟩)] w fun e w' => e = .returned (.tuple #[]) ∧ Mg w' m (acc ++ [x]) ∧ Below m w w' := by
  obtain ⟨⟨vm, hb, hown⟩, hadd⟩ := hM
  have hlt := hadd.lt
  have hltm : m < w.heap.size := by omega
  have c0 : w.cell? ⟨m, 0, none⟩ = some vm := hb.cell 0
  have f0 : w.frozen? ⟨m, 0, none⟩ = false := hb.frozen 0
  have HB := Lib.hid hb
  have HADD := Lib.hid hadd
  clear hb hadd
  unfold Smp.agg
  go_enter Try.func43, Try.ntmps43
  go_wp2_with (at_builtin; refine wpList_append_smp rfl (.tmp 3) (.tmp 5) rfl (m + 2) vm acc.length acc rfl (by exact (hown.alloc _).alloc _) (w.heap.size + 1) rfl x (by exact Blk.new1 _ _ _ _) (by omega) (by simp; omega) ?_; intro v1 w1 hown1 hgrow1; obtain ⟨g1, cap1, rfl, hg1, hc1, hc2⟩ := own_form hown1 (by omega); have hb2 : Below (m + 2) w w1 := (((Below.refl _ w).alloc (by omega) _).alloc (by simp; omega) _).trans (below_grown (hown.alloc _ |>.alloc _) (by simp; omega) hgrow1); have d0 : w1.cell? ⟨m, 0, none⟩ = some vm := (HB.out.below hb2 (by omega)).cell 0; have g0 : w1.frozen? ⟨m, 0, none⟩ = false := (HB.out.below hb2 (by omega)).frozen 0; clear hgrow1 c0 f0)
  have hbm1 := HB.out.below hb2 (by omega)
  have hba1 := HADD.out.below hb2 (by omega)
  go_end0
  refine ⟨rfl, ⟨⟨_, hbm1.setOne _, ?_⟩, hba1.setOther (by simp) _⟩, Below.setCell (B := m) (hb2.mono (by omega)) (Nat.le_refl _) _⟩
  rw [List.length_append]
  exact own_setOther hown1 (hbm1.no (by decide)) _

set_option maxRecDepth 100000 in
set_option maxHeartbeats 1000000 in
theorem addBetter_any (x y : Smp) (m : Nat) (acc : List Smp) (w : World) (hM : Mg w m acc) (hlen : acc.length ≤ 1000000) :
    Calls Try.prog 46 #[x.agg, y.agg, .pointer (some ⟨m + 1, 0, none⟩)] w fun e w' => e = .returned (.tuple #[]) ∧ Mg w' m (acc ++ [better x y]) ∧ Below m w w' := by
  have hlt := hM.lt
  have c0 : w.cell? ⟨m + 1, 0, none⟩ = some (.func (.func 43) #[] #[.pointer (some ⟨m, 0, none⟩)]) := hM.add.cell 0
  have hM2 : ∀ (w1 : World) (n : Nat), Below (w.heap.size + 2) (((w.alloc (.cells #[.int .i64 x.t, .int .i64 x.v, .int .i64 x.q] 27)).alloc (.cells #[.int .i64 y.t, .int .i64 y.v, .int .i64 y.q] 27)).drewN n) w1 → Mg w1 m acc ∧ Below m w w1 := fun w1 n hb => by
    have h1 : Below w.heap.size w w1 := bdrewN (((Below.refl _ w).alloc (Nat.le_refl _) _).alloc (by simp) _) n |>.trans (hb.mono (by omega))
    exact ⟨hM.below h1, h1.mono (by omega)⟩
  have c2 : ((w.alloc (.cells #[.int .i64 x.t, .int .i64 x.v, .int .i64 x.q] 27)).alloc (.cells #[.int .i64 y.t, .int .i64 y.v, .int .i64 y.q] 27)).cell? ⟨m + 1, 0, none⟩ = some (.func (.func 43) #[] #[.pointer (some ⟨m, 0, none⟩)]) := by
    rw [World.cell?_alloc_past _ _ _ (by simp; omega), World.cell?_alloc_past _ _ _ hlt]; exact c0
  have HM2 := Lib.hid hM2
  clear hM2 hM
  unfold Smp.agg
  go_enter Try.func46, Try.ntmps46
  go_wp2_with fail
  go_region_with (first
    | (go_at_call 47; refine (better_any x y _).mono ?_; rintro e w1 ⟨rfl, hb1⟩; have hM1 := HM2.out w1 1 (hb1.mono (by simp)); have c1 : w1.cell? ⟨m + 1, 0, none⟩ = some (.func (.func 43) #[] #[.pointer (some ⟨m, 0, none⟩)]) := hM1.1.add.cell 0)
    | (go_at_call 43; refine (add_any _ m acc _ hM1.1 hlen).mono ?_; rintro e w2 ⟨rfl, hM2, hb2⟩))
  all_goals (go_end0; exact ⟨rfl, hM2, hM1.2.trans hb2⟩)
end Go.Proofs.Ytjkncmhmmafmjaa
