import Derived.Test.YtblbfpokkpkcjaaCom11
/- The contracts of a compressor's holds and process (package compress). -/

namespace Go.Proofs.Ytblbfpokkpkcjaa
open Go.RowKit
set_option linter.unusedVariables false
set_option linter.unusedSimpArgs false

def compCells (d m : Int) (sp : Option Addr) (H : Smp) : Array Value := #[.int .i64 d, .int .i64 m, .pointer sp, .int .i64 H.t, .int .i64 H.v, .int .i64 H.q]
/-- Nothing but the blocks c and s has turned. -/
structure But2 (c s : Nat) (w w' : World) : Prop where
  os : w'.os = w.os
  tape : w'.tape = w.tape
  output : w'.output = w.output
  size : w.heap.size ≤ w'.heap.size
  block : ∀ b, b < w.heap.size → b ≠ c → b ≠ s → w'.heap[b]? = w.heap[b]?
theorem But2.of_but {c s g : Nat} {w w' : World} (h : But g w w') (hg : g = c ∨ g = s) : But2 c s w w' :=
  ⟨h.os, h.tape, h.output, h.size, fun b h1 h2 h3 => h.block b h1 (by rcases hg with rfl | rfl <;> assumption)⟩
theorem But2.of_below {c s : Nat} {w w' : World} (h : Below w.heap.size w w') : But2 c s w w' := ⟨h.os, h.tape, h.output, h.size, fun b h1 _ _ => h.block b h1⟩
theorem But2.trans {c s : Nat} {a b d : World} (h : But2 c s a b) (k : But2 c s b d) : But2 c s a d :=
  ⟨k.os.trans h.os, k.tape.trans h.tape, k.output.trans h.output, Nat.le_trans h.size k.size, fun i hi hc hs => (k.block i (Nat.lt_of_lt_of_le hi h.size) hc hs).trans (h.block i hi hc hs)⟩
theorem But2.fresh {c s g : Nat} {a b d : World} (h : But2 c s a b) (k : But2 c g b d) (hg : a.heap.size ≤ g) : But2 c s a d :=
  ⟨k.os.trans h.os, k.tape.trans h.tape, k.output.trans h.output, Nat.le_trans h.size k.size, fun i hi hc hs => (k.block i (Nat.lt_of_lt_of_le hi h.size) hc (by omega)).trans (h.block i hi hc hs)⟩

set_option maxRecDepth 100000 in
set_option maxHeartbeats 400000 in
theorem holds_none (c : Nat) (d m : Int) (H : Smp) (w : World) (hc : Blk w c 152 (compCells d m none H)) :
    Calls Try.prog 107 #[.pointer (some ⟨c, 0, none⟩)] w fun e w' => e = .returned (.bool false) ∧ w = w' := by
  have c2 : w.cell? ⟨c, 2, none⟩ = some (.pointer none) := hc.cell 2
  clear hc
  go_enter Try.func107, Try.ntmps107
  go_wp2_with fail
  go_ret
  exact ⟨rfl, rfl⟩
set_option maxRecDepth 100000 in
set_option maxHeartbeats 400000 in
theorem holds_some (c s : Nat) (d m : Int) (H P : Smp) (b : Bool) (lo hi : Int × Int) (w : World) (hc : Blk w c 152 (compCells d m (some ⟨s, 0, none⟩) H)) (hs : Blk w s 206 (spanCells d m P b false lo hi)) :
    Calls Try.prog 107 #[.pointer (some ⟨c, 0, none⟩)] w fun e w' => e = .returned (.bool b) ∧ w = w' := by
  have c2 : w.cell? ⟨c, 2, none⟩ = some (.pointer (some ⟨s, 0, none⟩)) := hc.cell 2
  have s5 : w.cell? ⟨s, 5, none⟩ = some (.bool b) := hs.cell 5
  clear hc hs
  go_enter Try.func107, Try.ntmps107
  go_wp2_with fail
  go_ret
  exact ⟨rfl, rfl⟩

/-- What process keeps: the compressor, the sample. -/
structure KP (w0 : World) (c bx : Nat) (cc : Array Value) (x : Smp) (w : World) : Prop where
  cp : Blk w c 152 cc
  bx : Blk w bx 71 #[.int .i64 x.t, .int .i64 x.v, .int .i64 x.q]
  bl : Below w0.heap.size w0 w
theorem KP.step {w0 w w' : World} {c bx : Nat} {cc : Array Value} {x : Smp} (hb : Below w.heap.size w w') (h : KP w0 c bx cc x w) : KP w0 c bx cc x w' :=
  ⟨h.cp.below hb h.cp.lt, h.bx.below hb h.bx.lt, h.bl.trans (hb.mono h.bl.size)⟩
theorem KP.drew {w0 w : World} {c bx : Nat} {cc : Array Value} {x : Smp} (h : KP w0 c bx cc x w) : KP w0 c bx cc x w.drew := h.step (w' := w.drew) (show Below w.heap.size w w.drew from ⟨rfl, rfl, rfl, Nat.le_refl _, fun _ _ => rfl⟩)
theorem KP.drewN {w0 w : World} {c bx : Nat} {cc : Array Value} {x : Smp} (h : KP w0 c bx cc x w) (n : Nat) : KP w0 c bx cc x (w.drewN n) := h.step (w' := w.drewN n) (show Below w.heap.size w (w.drewN n) from ⟨rfl, rfl, rfl, Nat.le_refl _, fun _ _ => rfl⟩)

set_option maxRecDepth 100000 in
set_option maxHeartbeats 2000000 in
/-- The first sample. -/
theorem process_none (c : Nat) (d m : Int) (H x : Smp) (w : World) (hc : Blk w c 152 (compCells d m none H)) :
    Calls Try.prog 106 #[.pointer (some ⟨c, 0, none⟩), .agg #[.int .i64 x.t, .int .i64 x.v, .int .i64 x.q]] w fun e w' => ∃ g, e = .returned (.tuple #[.bool false, .bool true]) ∧ w.heap.size ≤ g ∧
      Blk w' c 152 (compCells d m (some ⟨g, 0, none⟩) x) ∧ Blk w' g 206 (spanCells d m x false false (0, 0) (0, 0)) ∧ But c w w' := by
  have hk : KP w c w.heap.size (compCells d m none H) x (w.alloc (.cells #[.int .i64 x.t, .int .i64 x.v, .int .i64 x.q] 71)) :=
    ⟨hc.alloc _, Blk.new _ _ _, (Below.refl _ w).alloc (Nat.le_refl _) _⟩
  have hcw : c < w.heap.size := hc.lt
  have hne : w.heap.size ≠ c := by omega
  clear hc
  go_enter Try.func106, Try.ntmps106
  go_wp2_with fail
  generalize w.alloc (.cells #[.int .i64 x.t, .int .i64 x.v, .int .i64 x.q] 71) = wa at *
  have c2 : wa.cell? ⟨c, 2, none⟩ = some (.pointer none) := hk.cp.cell 2
  go_quiet (fail)
  go_upto_region 3 with (go_at_call 107; refine (holds_none c d m H _ (hk.drewN _).cp).mono ?_; rintro e w' ⟨rfl, rfl⟩)
  have hkb := hk.drewN nq
  generalize wa.drewN nq = wb at *
  have hS0 : (wb.drew).cell? ⟨c, 0, none⟩ = some (.int .i64 d) ∧ (wb.drew).cell? ⟨c, 1, none⟩ = some (.int .i64 m) ∧ (wb.drew).cell? ⟨w.heap.size, 0, none⟩ = some (.int .i64 x.t) ∧ (wb.drew).cell? ⟨w.heap.size, 1, none⟩ = some (.int .i64 x.v) ∧ (wb.drew).cell? ⟨w.heap.size, 2, none⟩ = some (.int .i64 x.q) := ⟨(hkb.drew).cp.cell 0, (hkb.drew).cp.cell 1, (hkb.drew).bx.cell 0, (hkb.drew).bx.cell 1, (hkb.drew).bx.cell 2⟩
  go_region_held3 (fun w' => (w').cell? ⟨c, 0, none⟩ = some (.int .i64 d) ∧ (w').cell? ⟨c, 1, none⟩ = some (.int .i64 m) ∧ (w').cell? ⟨w.heap.size, 0, none⟩ = some (.int .i64 x.t) ∧ (w').cell? ⟨w.heap.size, 1, none⟩ = some (.int .i64 x.v) ∧ (w').cell? ⟨w.heap.size, 2, none⟩ = some (.int .i64 x.q))
    (first | with_reducible exact hSp _ | with_reducible exact hSk | with_reducible exact hS0)
    (first
    | (go_at_call 167; (with_reducible refine (newSpan_any d m x _).mono ?_); rintro e wk ⟨g, rfl, hg, hzg, hbk⟩; have hkk := KP.step hbk hkb.drew; have hSk : (wk).cell? ⟨c, 0, none⟩ = some (.int .i64 d) ∧ (wk).cell? ⟨c, 1, none⟩ = some (.int .i64 m) ∧ (wk).cell? ⟨w.heap.size, 0, none⟩ = some (.int .i64 x.t) ∧ (wk).cell? ⟨w.heap.size, 1, none⟩ = some (.int .i64 x.v) ∧ (wk).cell? ⟨w.heap.size, 2, none⟩ = some (.int .i64 x.q) := ⟨(hkk).cp.cell 0, (hkk).cp.cell 1, (hkk).bx.cell 0, (hkk).bx.cell 1, (hkk).bx.cell 2⟩; have k2 : wk.cell? ⟨c, 2, none⟩ = some (.pointer none) := hkk.cp.cell 2; have f2 : wk.frozen? ⟨c, 2, none⟩ = false := hkk.cp.frozen 2; have hbt := (But.refl c w).below hkk.bl; have hcs := hkk.cp.set_ 2 (.pointer (some ⟨g, 0, none⟩)); have hbs := hkk.bx.setOther (p := ⟨c, 2, none⟩) hne (.pointer (some ⟨g, 0, none⟩)); have hSp : ∀ u, (wk.setCell ⟨c, 2, none⟩ u).cell? ⟨c, 0, none⟩ = some (.int .i64 d) ∧ (wk.setCell ⟨c, 2, none⟩ u).cell? ⟨c, 1, none⟩ = some (.int .i64 m) ∧ (wk.setCell ⟨c, 2, none⟩ u).cell? ⟨w.heap.size, 0, none⟩ = some (.int .i64 x.t) ∧ (wk.setCell ⟨c, 2, none⟩ u).cell? ⟨w.heap.size, 1, none⟩ = some (.int .i64 x.v) ∧ (wk.setCell ⟨c, 2, none⟩ u).cell? ⟨w.heap.size, 2, none⟩ = some (.int .i64 x.q) := fun u => ⟨(hkk.cp.set_ 2 u).cell 0, (hkk.cp.set_ 2 u).cell 1, (hkk.bx.setOther hne u).cell 0, (hkk.bx.setOther hne u).cell 1, (hkk.bx.setOther hne u).cell 2⟩; clear hbk))

  have hgw : w.heap.size ≤ g := Nat.le_trans hkb.bl.size hg
  have hgc : g ≠ c := by omega
  have hzs := hzg.setOther (p := ⟨c, 2, none⟩) hgc (.pointer (some ⟨g, 0, none⟩))
  have hbtl := hbt.setCell (p := ⟨c, 2, none⟩) (.inl rfl) (.pointer (some ⟨g, 0, none⟩))
  go_upto_region 8 with fail
  generalize wk.setCell ⟨c, 2, none⟩ (.pointer (some ⟨g, 0, none⟩)) = wl at *
  have hcl : Blk wl c 152 (compCells d m (some ⟨g, 0, none⟩) H) := hcs
  have e3 : wl.cell? ⟨c, 3, none⟩ = some (.int .i64 H.t) := hcl.cell 3
  have e4 : wl.cell? ⟨c, 4, none⟩ = some (.int .i64 H.v) := hcl.cell 4
  have e5 : wl.cell? ⟨c, 5, none⟩ = some (.int .i64 H.q) := hcl.cell 5
  have g3 : wl.frozen? ⟨c, 3, none⟩ = false := hcl.frozen 3
  have g4 : wl.frozen? ⟨c, 4, none⟩ = false := hcl.frozen 4
  have g5 : wl.frozen? ⟨c, 5, none⟩ = false := hcl.frozen 5
  have y0 : wl.cell? ⟨w.heap.size, 0, none⟩ = some (.int .i64 x.t) := hbs.cell 0
  have y1 : wl.cell? ⟨w.heap.size, 1, none⟩ = some (.int .i64 x.v) := hbs.cell 1
  have y2 : wl.cell? ⟨w.heap.size, 2, none⟩ = some (.int .i64 x.q) := hbs.cell 2
  clear k2 f2 hSk hS0 hSp hkk hkb
  go_wp2_with fail
  go_ret2
  refine ⟨_, rfl, hgw, ((hcl.set_ 3 (.int .i64 x.t)).set_ 4 (.int .i64 x.v)).set_ 5 (.int .i64 x.q), ?_, ?_⟩
  · exact ((hzs.setOther hgc _).setOther hgc _).setOther hgc _
  · exact ((hbtl.setCell (.inl rfl) _).setCell (.inl rfl) _).setCell (.inl rfl) _

set_option maxRecDepth 100000 in
set_option maxHeartbeats 2000000 in
/-- Another quality. -/
theorem process_qual (c s : Nat) (d m : Int) (H P x : Smp) (b : Bool) (lo hi : Int × Int) (w : World) (hc : Blk w c 152 (compCells d m (some ⟨s, 0, none⟩) H)) (hs : Blk w s 206 (spanCells d m P b false lo hi)) (hq : P.q ≠ x.q) :
    Calls Try.prog 106 #[.pointer (some ⟨c, 0, none⟩), .agg #[.int .i64 x.t, .int .i64 x.v, .int .i64 x.q]] w fun e w' => ∃ g, e = .returned (.tuple #[.bool b, .bool true]) ∧ w.heap.size ≤ g ∧
      Blk w' c 152 (compCells d m (some ⟨g, 0, none⟩) x) ∧ Blk w' g 206 (spanCells d m x false false (0, 0) (0, 0)) ∧ But c w w' := by
  have hk : KP w c w.heap.size (compCells d m (some ⟨s, 0, none⟩) H) x (w.alloc (.cells #[.int .i64 x.t, .int .i64 x.v, .int .i64 x.q] 71)) :=
    ⟨hc.alloc _, Blk.new _ _ _, (Below.refl _ w).alloc (Nat.le_refl _) _⟩
  have hs2 := hs.alloc (.cells #[.int .i64 x.t, .int .i64 x.v, .int .i64 x.q] 71)
  have hcw : c < w.heap.size := hc.lt
  have hne : w.heap.size ≠ c := by omega
  have hqq : (P.q != x.q) = true := by simpa using hq
  clear hc hs hq
  go_enter Try.func106, Try.ntmps106
  go_wp2_with fail
  generalize w.alloc (.cells #[.int .i64 x.t, .int .i64 x.v, .int .i64 x.q] 71) = wa at *
  have c2 : wa.cell? ⟨c, 2, none⟩ = some (.pointer (some ⟨s, 0, none⟩)) := hk.cp.cell 2
  have s4 : wa.cell? ⟨s, 4, none⟩ = some (.int .i64 P.q) := hs2.cell 4
  have a2 : wa.cell? ⟨w.heap.size, 2, none⟩ = some (.int .i64 x.q) := hk.bx.cell 2
  go_quiet (fail)
  go_upto_region 3 with (go_at_call 107; refine (holds_some c s d m H P b lo hi _ (hk.drewN _).cp (hs2.drewN _)).mono ?_; rintro e w' ⟨rfl, rfl⟩)
  clear s4 a2 c2
  have hkb := hk.drewN nq
  generalize wa.drewN nq = wb at *
  have hS0 : (wb.drew).cell? ⟨c, 0, none⟩ = some (.int .i64 d) ∧ (wb.drew).cell? ⟨c, 1, none⟩ = some (.int .i64 m) ∧ (wb.drew).cell? ⟨w.heap.size, 0, none⟩ = some (.int .i64 x.t) ∧ (wb.drew).cell? ⟨w.heap.size, 1, none⟩ = some (.int .i64 x.v) ∧ (wb.drew).cell? ⟨w.heap.size, 2, none⟩ = some (.int .i64 x.q) := ⟨(hkb.drew).cp.cell 0, (hkb.drew).cp.cell 1, (hkb.drew).bx.cell 0, (hkb.drew).bx.cell 1, (hkb.drew).bx.cell 2⟩
  go_region_held3 (fun w' => (w').cell? ⟨c, 0, none⟩ = some (.int .i64 d) ∧ (w').cell? ⟨c, 1, none⟩ = some (.int .i64 m) ∧ (w').cell? ⟨w.heap.size, 0, none⟩ = some (.int .i64 x.t) ∧ (w').cell? ⟨w.heap.size, 1, none⟩ = some (.int .i64 x.v) ∧ (w').cell? ⟨w.heap.size, 2, none⟩ = some (.int .i64 x.q))
    (first | with_reducible exact hSp _ | with_reducible exact hSk | with_reducible exact hS0)
    (first
    | (go_at_call 167; (with_reducible refine (newSpan_any d m x _).mono ?_); rintro e wk ⟨g, rfl, hg, hzg, hbk⟩; have hkk := KP.step hbk hkb.drew; have hSk : (wk).cell? ⟨c, 0, none⟩ = some (.int .i64 d) ∧ (wk).cell? ⟨c, 1, none⟩ = some (.int .i64 m) ∧ (wk).cell? ⟨w.heap.size, 0, none⟩ = some (.int .i64 x.t) ∧ (wk).cell? ⟨w.heap.size, 1, none⟩ = some (.int .i64 x.v) ∧ (wk).cell? ⟨w.heap.size, 2, none⟩ = some (.int .i64 x.q) := ⟨(hkk).cp.cell 0, (hkk).cp.cell 1, (hkk).bx.cell 0, (hkk).bx.cell 1, (hkk).bx.cell 2⟩; have k2 : wk.cell? ⟨c, 2, none⟩ = some (.pointer (some ⟨s, 0, none⟩)) := hkk.cp.cell 2; have f2 : wk.frozen? ⟨c, 2, none⟩ = false := hkk.cp.frozen 2; have hbt := (But.refl c w).below hkk.bl; have hcs := hkk.cp.set_ 2 (.pointer (some ⟨g, 0, none⟩)); have hbs := hkk.bx.setOther (p := ⟨c, 2, none⟩) hne (.pointer (some ⟨g, 0, none⟩)); have hSp : ∀ u, (wk.setCell ⟨c, 2, none⟩ u).cell? ⟨c, 0, none⟩ = some (.int .i64 d) ∧ (wk.setCell ⟨c, 2, none⟩ u).cell? ⟨c, 1, none⟩ = some (.int .i64 m) ∧ (wk.setCell ⟨c, 2, none⟩ u).cell? ⟨w.heap.size, 0, none⟩ = some (.int .i64 x.t) ∧ (wk.setCell ⟨c, 2, none⟩ u).cell? ⟨w.heap.size, 1, none⟩ = some (.int .i64 x.v) ∧ (wk.setCell ⟨c, 2, none⟩ u).cell? ⟨w.heap.size, 2, none⟩ = some (.int .i64 x.q) := fun u => ⟨(hkk.cp.set_ 2 u).cell 0, (hkk.cp.set_ 2 u).cell 1, (hkk.bx.setOther hne u).cell 0, (hkk.bx.setOther hne u).cell 1, (hkk.bx.setOther hne u).cell 2⟩; clear hbk))

  have hgw : w.heap.size ≤ g := Nat.le_trans hkb.bl.size hg
  have hgc : g ≠ c := by omega
  have hzs := hzg.setOther (p := ⟨c, 2, none⟩) hgc (.pointer (some ⟨g, 0, none⟩))
  have hbtl := hbt.setCell (p := ⟨c, 2, none⟩) (.inl rfl) (.pointer (some ⟨g, 0, none⟩))
  go_upto_region 8 with fail
  generalize wk.setCell ⟨c, 2, none⟩ (.pointer (some ⟨g, 0, none⟩)) = wl at *
  have hcl : Blk wl c 152 (compCells d m (some ⟨g, 0, none⟩) H) := hcs
  have e3 : wl.cell? ⟨c, 3, none⟩ = some (.int .i64 H.t) := hcl.cell 3
  have e4 : wl.cell? ⟨c, 4, none⟩ = some (.int .i64 H.v) := hcl.cell 4
  have e5 : wl.cell? ⟨c, 5, none⟩ = some (.int .i64 H.q) := hcl.cell 5
  have g3 : wl.frozen? ⟨c, 3, none⟩ = false := hcl.frozen 3
  have g4 : wl.frozen? ⟨c, 4, none⟩ = false := hcl.frozen 4
  have g5 : wl.frozen? ⟨c, 5, none⟩ = false := hcl.frozen 5
  have y0 : wl.cell? ⟨w.heap.size, 0, none⟩ = some (.int .i64 x.t) := hbs.cell 0
  have y1 : wl.cell? ⟨w.heap.size, 1, none⟩ = some (.int .i64 x.v) := hbs.cell 1
  have y2 : wl.cell? ⟨w.heap.size, 2, none⟩ = some (.int .i64 x.q) := hbs.cell 2
  clear k2 f2 hSk hS0 hSp hkk hkb
  go_wp2_with fail
  go_ret2
  refine ⟨_, rfl, hgw, ((hcl.set_ 3 (.int .i64 x.t)).set_ 4 (.int .i64 x.v)).set_ 5 (.int .i64 x.q), ?_, ?_⟩
  · exact ((hzs.setOther hgc _).setOther hgc _).setOther hgc _
  · exact ((hbtl.setCell (.inl rfl) _).setCell (.inl rfl) _).setCell (.inl rfl) _
end Go.Proofs.Ytblbfpokkpkcjaa
