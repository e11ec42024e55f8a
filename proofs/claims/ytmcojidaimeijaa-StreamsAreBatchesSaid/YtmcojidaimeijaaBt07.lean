import Derived.Test.YtmcojidaimeijaaBt06
/- The contracts of a compressor's holds and process (package compress). -/

namespace Go.Proofs.Ytmcojidaimeijaa
open Go.RowKit
set_option linter.unusedVariables false
set_option linter.unusedSimpArgs false

def compCells (d m : Int) (sp : Option Addr) (H : Smp) : Array Value := #[.int .i64 d, .int .i64 m, .pointer sp, .int .i64 H.t, .int .i64 H.v, .int .i64 H.q]
/-- Nothing but the blocks c and s has turned. -/
structure But2 (c s : Nat) (w w' : World) : Prop where
  os : w'.os = w.os
  tape : w'.tape = w.tape
  output : w'.output = w.output
  size : w.heap.size ≤ w'.heap.size
  block : ∀ b, b < w.heap.size → b ≠ c → b ≠ s → w'.heap[b]? = w.heap[b]?
theorem But2.of_but {c s g : Nat} {w w' : World} (h : But g w w') (hg : g = c ∨ g = s) : But2 c s w w' :=
  ⟨h.os, h.tape, h.output, h.size, fun b h1 h2 h3 => h.block b h1 (by rcases hg with rfl | rfl <;> assumption)⟩
theorem But2.of_below {c s : Nat} {w w' : World} (h : Below w.heap.size w w') : But2 c s w w' := ⟨h.os, h.tape, h.output, h.size, fun b h1 _ _ => h.block b h1⟩
theorem But2.trans {c s : Nat} {a b d : World} (h : But2 c s a b) (k : But2 c s b d) : But2 c s a d :=
  ⟨k.os.trans h.os, k.tape.trans h.tape, k.output.trans h.output, Nat.le_trans h.size k.size, fun i hi hc hs => (k.block i (Nat.lt_of_lt_of_le hi h.size) hc hs).trans (h.block i hi hc hs)⟩
theorem But2.fresh {c s g : Nat} {a b d : World} (h : But2 c s a b) (k : But2 c g b d) (hg : a.heap.size ≤ g) : But2 c s a d :=
  ⟨k.os.trans h.os, k.tape.trans h.tape, k.output.trans h.output, Nat.le_trans h.size k.size, fun i hi hc hs => (k.block i (Nat.lt_of_lt_of_le hi h.size) hc (by omega)).trans (h.block i hi hc hs)⟩

set_option maxRecDepth 100000 in
set_option maxHeartbeats 400000 in
theorem holds_none (c : Nat) (d m : Int) (H : Smp) (w : World) (hc : Blk w c 119 (compCells d m none H)) :
    Calls Try.prog 71 #[.pointer (some ⟨c, 0, none⟩)] w fun e w' => e = .returned (.bool false) ∧ w = w' := by
  have c2 : w.cell? ⟨c, 2, none⟩ = some (.pointer none) := hc.cell 2
  clear hc
  go_enter Try.func71, Try.ntmps71
  go_wp2_with fail
  go_ret
  exact ⟨rfl, rfl⟩
set_option maxRecDepth 100000 in
set_option maxHeartbeats 400000 in
theorem holds_some (c s : Nat) (d m : Int) (H P : Smp) (b : Bool) (lo hi : Int × Int) (w : World) (hc : Blk w c 119 (compCells d m (some ⟨s, 0, none⟩) H)) (hs : Blk w s 162 (spanCells d m P b false lo hi)) :
    Calls Try.prog 71 #[.pointer (some ⟨c, 0, none⟩)] w fun e w' => e = .returned (.bool b) ∧ w = w' := by
  have c2 : w.cell? ⟨c, 2, none⟩ = some (.pointer (some ⟨s, 0, none⟩)) := hc.cell 2
  have s5 : w.cell? ⟨s, 5, none⟩ = some (.bool b) := hs.cell 5
  clear hc hs
  go_enter Try.func71, Try.ntmps71
  go_wp2_with fail
  go_ret
  exact ⟨rfl, rfl⟩

/-- What process keeps: the compressor, the sample. -/
structure KP (w0 : World) (c bx : Nat) (cc : Array Value) (x : Smp) (w : World) : Prop where
  cp : Blk w c 119 cc
  bx : Blk w bx 57 #[.int .i64 x.t, .int .i64 x.v, .int .i64 x.q]
  bl : Below w0.heap.size w0 w
theorem KP.step {w0 w w' : World} {c bx : Nat} {cc : Array Value} {x : Smp} (hb : Below w.heap.size w w') (h : KP w0 c bx cc x w) : KP w0 c bx cc x w' :=
  ⟨h.cp.below hb h.cp.lt, h.bx.below hb h.bx.lt, h.bl.trans (hb.mono h.bl.size)⟩
theorem KP.drew {w0 w : World} {c bx : Nat} {cc : Array Value} {x : Smp} (h : KP w0 c bx cc x w) : KP w0 c bx cc x w.drew := h.step (w' := w.drew) (show Below w.heap.size w w.drew from ⟨rfl, rfl, rfl, Nat.le_refl _, fun _ _ => rfl⟩)
theorem KP.drewN {w0 w : World} {c bx : Nat} {cc : Array Value} {x : Smp} (h : KP w0 c bx cc x w) (n : Nat) : KP w0 c bx cc x (w.drewN n) := h.step (w' := w.drewN n) (show Below w.heap.size w (w.drewN n) from ⟨rfl, rfl, rfl, Nat.le_refl _, fun _ _ => rfl⟩)

set_option maxRecDepth 100000 in
set_option maxHeartbeats 2000000 in
/-- The first sample. -/
theorem process_none (c : Nat) (d m : Int) (H x : Smp) (w : World) (hc : Blk w c 119 (compCells d m none H)) :
    Calls Try.prog 70 #[.pointer (some ⟨c, 0, none⟩), .agg #[.int .i64 x.t, .int .i64 x.v, .int .i64 x.q]] w fun e w' => ∃ g, e = .returned (.tuple #[.bool false, .bool true]) ∧ w.heap.size ≤ g ∧
      Blk w' c 119 (compCells d m (some ⟨g, 0, none⟩) x) ∧ Blk w' g 162 (spanCells d m x false false (0, 0) (0, 0)) ∧ But c w w' := by
  have hk : KP w c w.heap.size (compCells d m none H) x (w.alloc (.cells #[.int .i64 x.t, .int .i64 x.v, .int .i64 x.q] 57)) :=
    ⟨hc.alloc _, Blk.new _ _ _, (Below.refl _ w).alloc (Nat.le_refl _) _⟩
  have hcw : c < w.heap.size := hc.lt
  have hne : w.heap.size ≠ c := by omega
  clear hc
  go_enter Try.func70, Try.ntmps70
  go_wp2_with fail
  generalize w.alloc (.cells #[.int .i64 x.t, .int .i64 x.v, .int .i64 x.q] 57) = wa at *
  have c2 : wa.cell? ⟨c, 2, none⟩ = some (.pointer none) := hk.cp.cell 2
  go_quiet (fail)
  go_upto_region 3 with (go_at_call 71; refine (holds_none c d m H _ (hk.drewN _).cp).mono ?_; rintro e w' ⟨rfl, rfl⟩)
  have hkb := hk.drewN nq
  generalize wa.drewN nq = wb at *
  have hS0 : (wb.drew).cell? ⟨c, 0, none⟩ = some (.int .i64 d) ∧ (wb.drew).cell? ⟨c, 1, none⟩ = some (.int .i64 m) ∧ (wb.drew).cell? ⟨w.heap.size, 0, none⟩ = some (.int .i64 x.t) ∧ (wb.drew).cell? ⟨w.heap.size, 1, none⟩ = some (.int .i64 x.v) ∧ (wb.drew).cell? ⟨w.heap.size, 2, none⟩ = some (.int .i64 x.q) := ⟨(hkb.drew).cp.cell 0, (hkb.drew).cp.cell 1, (hkb.drew).bx.cell 0, (hkb.drew).bx.cell 1, (hkb.drew).bx.cell 2⟩
  go_region_held3 (fun w' => (w').cell? ⟨c, 0, none⟩ = some (.int .i64 d) ∧ (w').cell? ⟨c, 1, none⟩ = some (.int .i64 m) ∧ (w').cell? ⟨w.heap.size, 0, none⟩ = some (.int .i64 x.t) ∧ (w').cell? ⟨w.heap.size, 1, none⟩ = some (.int .i64 x.v) ∧ (w').cell? ⟨w.heap.size, 2, none⟩ = some (.int .i64 x.q))
    (first | with_reducible exact hSp _ | with_reducible exact hSk | with_reducible exact hS0)
    (first
    | (go_at_call 107; (with_reducible refine (newSpan_any d m x _).mono ?_); rintro e wk ⟨g, rfl, hg, hzg, hbk⟩; have hkk := KP.step hbk hkb.drew; have hSk : (wk).cell? ⟨c, 0, none⟩ = some (.int .i64 d) ∧ (wk).cell? ⟨c, 1, none⟩ = some (.int .i64 m) ∧ (wk).cell? ⟨w.heap.size, 0, none⟩ = some (.int .i64 x.t) ∧ (wk).cell? ⟨w.heap.size, 1, none⟩ = some (.int .i64 x.v) ∧ (wk).cell? ⟨w.heap.size, 2, none⟩ = some (.int .i64 x.q) := ⟨(hkk).cp.cell 0, (hkk).cp.cell 1, (hkk).bx.cell 0, (hkk).bx.cell 1, (hkk).bx.cell 2⟩; have k2 : wk.cell? ⟨c, 2, none⟩ = some (.pointer none) := hkk.cp.cell 2; have f2 : wk.frozen? ⟨c, 2, none⟩ = false := hkk.cp.frozen 2; have hbt := (But.refl c w).below hkk.bl; have hcs := hkk.cp.set_ 2 (.pointer (some ⟨g, 0, none⟩)); have hbs := hkk.bx.setOther (p := ⟨c, 2, none⟩) hne (.pointer (some ⟨g, 0, none⟩)); have hSp : ∀ u, (wk.setCell ⟨c, 2, none⟩ u).cell? ⟨c, 0, none⟩ = some (.int .i64 d) ∧ (wk.setCell ⟨c, 2, none⟩ u).cell? ⟨c, 1, none⟩ = some (.int .i64 m) ∧ (wk.setCell ⟨c, 2, none⟩ u).cell? ⟨w.heap.size, 0, none⟩ = some (.int .i64 x.t) ∧ (wk.setCell ⟨c, 2, none⟩ u).cell? ⟨w.heap.size, 1, none⟩ = some (.int .i64 x.v) ∧ (wk.setCell ⟨c, 2, none⟩ u).cell? ⟨w.heap.size, 2, none⟩ = some (.int .i64 x.q) := fun u => ⟨(hkk.cp.set_ 2 u).cell 0, (hkk.cp.set_ 2 u).cell 1, (hkk.bx.setOther hne u).cell 0, (hkk.bx.setOther hne u).cell 1, (hkk.bx.setOther hne u).cell 2⟩; clear hbk))

  have hgw : w.heap.size ≤ g := Nat.le_trans hkb.bl.size hg
  have hgc : g ≠ c := by omega
  have hzs := hzg.setOther (p := ⟨c, 2, none⟩) hgc (.pointer (some ⟨g, 0, none⟩))
  have hbtl := hbt.setCell (p := ⟨c, 2, none⟩) (.inl rfl) (.pointer (some ⟨g, 0, none⟩))
  go_upto_region 8 with fail
  generalize wk.setCell ⟨c, 2, none⟩ (.pointer (some ⟨g, 0, none⟩)) = wl at *
  have hcl : Blk wl c 119 (compCells d m (some ⟨g, 0, none⟩) H) := hcs
  have e3 : wl.cell? ⟨c, 3, none⟩ = some (.int .i64 H.t) := hcl.cell 3
  have e4 : wl.cell? ⟨c, 4, none⟩ = some (.int .i64 H.v) := hcl.cell 4
  have e5 : wl.cell? ⟨c, 5, none⟩ = some (.int .i64 H.q) := hcl.cell 5
  have g3 : wl.frozen? ⟨c, 3, none⟩ = false := hcl.frozen 3
  have g4 : wl.frozen? ⟨c, 4, none⟩ = false := hcl.frozen 4
  have g5 : wl.frozen? ⟨c, 5, none⟩ = false := hcl.frozen 5
  have y0 : wl.cell? ⟨w.heap.size, 0, none⟩ = some (.int .i64 x.t) := hbs.cell 0
  have y1 : wl.cell? ⟨w.heap.size, 1, none⟩ = some (.int .i64 x.v) := hbs.cell 1
  have y2 : wl.cell? ⟨w.heap.size, 2, none⟩ = some (.int .i64 x.q) := hbs.cell 2
  clear k2 f2 hSk hS0 hSp hkk hkb
  go_wp2_with fail
  go_ret2
  refine ⟨_, rfl, hgw, ((hcl.set_ 3 (.int .i64 x.t)).set_ 4 (.int .i64 x.v)).set_ 5 (.int .i64 x.q), ?_, ?_⟩
  · exact ((hzs.setOther hgc _).setOther hgc _).setOther hgc _
  · exact ((hbtl.setCell (.inl rfl) _).setCell (.inl rfl) _).setCell (.inl rfl) _

set_option maxRecDepth 100000 in
set_option maxHeartbeats 2000000 in
/-- Another quality. -/
theorem process_qual (c s : Nat) (d m : Int) (H P x : Smp) (b : Bool) (lo hi : Int × Int) (w : World) (hc : Blk w c 119 (compCells d m (some ⟨s, 0, none⟩) H)) (hs : Blk w s 162 (spanCells d m P b false lo hi)) (hq : P.q ≠ x.q) :
    Calls Try.prog 70 #[.pointer (some ⟨c, 0, none⟩), .agg #[.int .i64 x.t, .int .i64 x.v, .int .i64 x.q]] w fun e w' => ∃ g, e = .returned (.tuple #[.bool b, .bool true]) ∧ w.heap.size ≤ g ∧
      Blk w' c 119 (compCells d m (some ⟨g, 0, none⟩) x) ∧ Blk w' g 162 (spanCells d m x false false (0, 0) (0, 0)) ∧ But c w w' := by
  have hk : KP w c w.heap.size (compCells d m (some ⟨s, 0, none⟩) H) x (w.alloc (.cells #[.int .i64 x.t, .int .i64 x.v, .int .i64 x.q] 57)) :=
    ⟨hc.alloc _, Blk.new _ _ _, (Below.refl _ w).alloc (Nat.le_refl _) _⟩
  have hs2 := hs.alloc (.cells #[.int .i64 x.t, .int .i64 x.v, .int .i64 x.q] 57)
  have hcw : c < w.heap.size := hc.lt
  have hne : w.heap.size ≠ c := by omega
  have hqq : (P.q != x.q) = true := by simpa using hq
  clear hc hs hq
  go_enter Try.func70, Try.ntmps70
  go_wp2_with fail
  generalize w.alloc (.cells #[.int .i64 x.t, .int .i64 x.v, .int .i64 x.q] 57) = wa at *
  have c2 : wa.cell? ⟨c, 2, none⟩ = some (.pointer (some ⟨s, 0, none⟩)) := hk.cp.cell 2
  have s4 : wa.cell? ⟨s, 4, none⟩ = some (.int .i64 P.q) := hs2.cell 4
  have a2 : wa.cell? ⟨w.heap.size, 2, none⟩ = some (.int .i64 x.q) := hk.bx.cell 2
  go_quiet (fail)
  go_upto_region 3 with (go_at_call 71; refine (holds_some c s d m H P b lo hi _ (hk.drewN _).cp (hs2.drewN _)).mono ?_; rintro e w' ⟨rfl, rfl⟩)
  clear s4 a2 c2
  have hkb := hk.drewN nq
  generalize wa.drewN nq = wb at *
  have hS0 : (wb.drew).cell? ⟨c, 0, none⟩ = some (.int .i64 d) ∧ (wb.drew).cell? ⟨c, 1, none⟩ = some (.int .i64 m) ∧ (wb.drew).cell? ⟨w.heap.size, 0, none⟩ = some (.int .i64 x.t) ∧ (wb.drew).cell? ⟨w.heap.size, 1, none⟩ = some (.int .i64 x.v) ∧ (wb.drew).cell? ⟨w.heap.size, 2, none⟩ = some (.int .i64 x.q) := ⟨(hkb.drew).cp.cell 0, (hkb.drew).cp.cell 1, (hkb.drew).bx.cell 0, (hkb.drew).bx.cell 1, (hkb.drew).bx.cell 2⟩
  go_region_held3 (fun w' => (w').cell? ⟨c, 0, none⟩ = some (.int .i64 d) ∧ (w').cell? ⟨c, 1, none⟩ = some (.int .i64 m) ∧ (w').cell? ⟨w.heap.size, 0, none⟩ = some (.int .i64 x.t) ∧ (w').cell? ⟨w.heap.size, 1, none⟩ = some (.int .i64 x.v) ∧ (w').cell? ⟨w.heap.size, 2, none⟩ = some (.int .i64 x.q))
    (first | with_reducible exact hSp _ | with_reducible exact hSk | with_reducible exact hS0)
    (first
    | (go_at_call 107; (with_reducible refine (newSpan_any d m x _).mono ?_); rintro e wk ⟨g, rfl, hg, hzg, hbk⟩; have hkk := KP.step hbk hkb.drew; have hSk : (wk).cell? ⟨c, 0, none⟩ = some (.int .i64 d) ∧ (wk).cell? ⟨c, 1, none⟩ = some (.int .i64 m) ∧ (wk).cell? ⟨w.heap.size, 0, none⟩ = some (.int .i64 x.t) ∧ (wk).cell? ⟨w.heap.size, 1, none⟩ = some (.int .i64 x.v) ∧ (wk).cell? ⟨w.heap.size, 2, none⟩ = some (.int .i64 x.q) := ⟨(hkk).cp.cell 0, (hkk).cp.cell 1, (hkk).bx.cell 0, (hkk).bx.cell 1, (hkk).bx.cell 2⟩; have k2 : wk.cell? ⟨c, 2, none⟩ = some (.pointer (some ⟨s, 0, none⟩)) := hkk.cp.cell 2; have f2 : wk.frozen? ⟨c, 2, none⟩ = false := hkk.cp.frozen 2; have hbt := (But.refl c w).below hkk.bl; have hcs := hkk.cp.set_ 2 (.pointer (some ⟨g, 0, none⟩)); have hbs := hkk.bx.setOther (p := ⟨c, 2, none⟩) hne (.pointer (some ⟨g, 0, none⟩)); have hSp : ∀ u, (wk.setCell ⟨c, 2, none⟩ u).cell? ⟨c, 0, none⟩ = some (.int .i64 d) ∧ (wk.setCell ⟨c, 2, none⟩ u).cell? ⟨c, 1, none⟩ = some (.int .i64 m) ∧ (wk.setCell ⟨c, 2, none⟩ u).cell? ⟨w.heap.size, 0, none⟩ = some (.int .i64 x.t) ∧ (wk.setCell ⟨c, 2, none⟩ u).cell? ⟨w.heap.size, 1, none⟩ = some (.int .i64 x.v) ∧ (wk.setCell ⟨c, 2, none⟩ u).cell? ⟨w.heap.size, 2, none⟩ = some (.int .i64 x.q) := fun u => ⟨(hkk.cp.set_ 2 u).cell 0, (hkk.cp.set_ 2 u).cell 1, (hkk.bx.setOther hne u).cell 0, (hkk.bx.setOther hne u).cell 1, (hkk.bx.setOther hne u).cell 2⟩; clear hbk))

  have hgw : w.heap.size ≤ g := Nat.le_trans hkb.bl.size hg
  have hgc : g ≠ c := by omega
  have hzs := hzg.setOther (p := ⟨c, 2, none⟩) hgc (.pointer (some ⟨g, 0, none⟩))
  have hbtl := hbt.setCell (p := ⟨c, 2, none⟩) (.inl rfl) (.pointer (some ⟨g, 0, none⟩))
  go_upto_region 8 with fail
  generalize wk.setCell ⟨c, 2, none⟩ (.pointer (some ⟨g, 0, none⟩)) = wl at *
  have hcl : Blk wl c 119 (compCells d m (some ⟨g, 0, none⟩) H) := hcs
  have e3 : wl.cell? ⟨c, 3, none⟩ = some (.int .i64 H.t) := hcl.cell 3
  have e4 : wl.cell? ⟨c, 4, none⟩ = some (.int .i64 H.v) := hcl.cell 4
  have e5 : wl.cell? ⟨c, 5, none⟩ = some (.int .i64 H.q) := hcl.cell 5
  have g3 : wl.frozen? ⟨c, 3, none⟩ = false := hcl.frozen 3
  have g4 : wl.frozen? ⟨c, 4, none⟩ = false := hcl.frozen 4
  have g5 : wl.frozen? ⟨c, 5, none⟩ = false := hcl.frozen 5
  have y0 : wl.cell? ⟨w.heap.size, 0, none⟩ = some (.int .i64 x.t) := hbs.cell 0
  have y1 : wl.cell? ⟨w.heap.size, 1, none⟩ = some (.int .i64 x.v) := hbs.cell 1
  have y2 : wl.cell? ⟨w.heap.size, 2, none⟩ = some (.int .i64 x.q) := hbs.cell 2
  clear k2 f2 hSk hS0 hSp hkk hkb
  go_wp2_with fail
  go_ret2
  refine ⟨_, rfl, hgw, ((hcl.set_ 3 (.int .i64 x.t)).set_ 4 (.int .i64 x.v)).set_ 5 (.int .i64 x.q), ?_, ?_⟩
  · exact ((hzs.setOther hgc _).setOther hgc _).setOther hgc _
  · exact ((hbtl.setCell (.inl rfl) _).setCell (.inl rfl) _).setCell (.inl rfl) _
end Go.Proofs.Ytmcojidaimeijaa

/- The contract of a compressor's process at a sample of the same quality (package compress). -/

namespace Go.Proofs.Ytmcojidaimeijaa
open Go.RowKit
set_option linter.unusedVariables false
set_option linter.unusedSimpArgs false

theorem But2.set_ {c s : Nat} {w w' : World} (h : But2 c s w w') (i : Nat) (u : Value) : But2 c s w (w'.setCell ⟨c, i, none⟩ u) :=
  h.trans (But2.of_but ((But.refl c w').setCell (.inl rfl) u) (.inl rfl))

set_option maxRecDepth 100000 in
set_option maxHeartbeats 2000000 in
/-- It is accepted. -/
theorem process_open (c s : Nat) (d m : Int) (H P x : Smp) (b : Bool) (lo hi : Int × Int) (w : World) (hc : Blk w c 119 (compCells d m (some ⟨s, 0, none⟩) H)) (hs : Blk w s 162 (spanCells d m P b false lo hi)) (hq : x.q = P.q)
    (hP : FitP P) (hx : FitP x) (hd : 0 ≤ d ∧ d ≤ 2000000) (hlo : FitS lo) (hhi : FitS hi) (hB : (!b || accI m P x lo hi) = true) :
    Calls Try.prog 70 #[.pointer (some ⟨c, 0, none⟩), .agg #[.int .i64 x.t, .int .i64 x.v, .int .i64 x.q]] w fun e w' => e = .returned (.tuple #[.bool false, .bool false]) ∧
      Blk w' c 119 (compCells d m (some ⟨s, 0, none⟩) x) ∧ Blk w' s 162 (spanCells d m P true false (lowN b lo (x.v + -d - P.v, x.t - P.t)) (highN b hi (x.v + d - P.v, x.t - P.t))) ∧ But2 c s w w' := by
  have hk : KP w c w.heap.size (compCells d m (some ⟨s, 0, none⟩) H) x (w.alloc (.cells #[.int .i64 x.t, .int .i64 x.v, .int .i64 x.q] 57)) :=
    ⟨hc.alloc _, Blk.new _ _ _, (Below.refl _ w).alloc (Nat.le_refl _) _⟩
  have hs2 := hs.alloc (.cells #[.int .i64 x.t, .int .i64 x.v, .int .i64 x.q] 57)
  have hcw : c < w.heap.size := hc.lt
  have hsw : s < w.heap.size := hs.lt
  have hcs : c ≠ s := by
    rintro rfl
    exact hc.no (e := 162) (by decide) _ _ hs
  have hne : w.heap.size ≠ c := by omega
  have hns : w.heap.size ≠ s := by omega
  have hqq : (P.q != x.q) = false := by rw [hq]; simp
  have hadd := fun (w : World) (h : Blk w s 162 (spanCells d m P b false lo hi)) => spanAdd_any s d m P x b lo hi w h hP hx hq hd hlo hhi
  rw [hB] at hadd
  have HADD := Lib.hid hadd
  clear hc hs hq hadd hB
  go_enter Try.func70, Try.ntmps70
  go_wp2_with fail
  generalize w.alloc (.cells #[.int .i64 x.t, .int .i64 x.v, .int .i64 x.q] 57) = wa at *
  have c2 : wa.cell? ⟨c, 2, none⟩ = some (.pointer (some ⟨s, 0, none⟩)) := hk.cp.cell 2
  have s4 : wa.cell? ⟨s, 4, none⟩ = some (.int .i64 P.q) := hs2.cell 4
  have a2 : wa.cell? ⟨w.heap.size, 2, none⟩ = some (.int .i64 x.q) := hk.bx.cell 2
  go_quiet (fail)
  go_upto_region 4 with fail
  have hkb := hk.drewN nq
  have hsb := hs2.drewN nq
  generalize wa.drewN nq = wb at *
  clear c2 s4 a2 hk hs2
  have hS0 : (wb.drew).cell? ⟨c, 2, none⟩ = some (.pointer (some ⟨s, 0, none⟩)) ∧ (wb.drew).cell? ⟨w.heap.size, 0, none⟩ = some (.int .i64 x.t) ∧ (wb.drew).cell? ⟨w.heap.size, 1, none⟩ = some (.int .i64 x.v) ∧ (wb.drew).cell? ⟨w.heap.size, 2, none⟩ = some (.int .i64 x.q) := ⟨(hkb.drew).cp.cell 2, (hkb.drew).bx.cell 0, (hkb.drew).bx.cell 1, (hkb.drew).bx.cell 2⟩
  go_region_held3 (fun w' => (w').cell? ⟨c, 2, none⟩ = some (.pointer (some ⟨s, 0, none⟩)) ∧ (w').cell? ⟨w.heap.size, 0, none⟩ = some (.int .i64 x.t) ∧ (w').cell? ⟨w.heap.size, 1, none⟩ = some (.int .i64 x.v) ∧ (w').cell? ⟨w.heap.size, 2, none⟩ = some (.int .i64 x.q))
    (first | with_reducible exact hSk | with_reducible exact hS0)
    (first
    | (go_at_call 108; (with_reducible refine (HADD.out _ hsb.drew).mono ?_); rintro e wk ⟨rfl, hzk, hbk⟩; have hck := hkb.cp.drew.but hbk hcs; have hxk := hkb.bx.drew.but hbk hns; have hSk : (wk).cell? ⟨c, 2, none⟩ = some (.pointer (some ⟨s, 0, none⟩)) ∧ (wk).cell? ⟨w.heap.size, 0, none⟩ = some (.int .i64 x.t) ∧ (wk).cell? ⟨w.heap.size, 1, none⟩ = some (.int .i64 x.v) ∧ (wk).cell? ⟨w.heap.size, 2, none⟩ = some (.int .i64 x.q) := ⟨hck.cell 2, hxk.cell 0, hxk.cell 1, hxk.cell 2⟩; have hbt : But2 c s w wk := (But2.of_below (hkb.drew.bl)).trans (But2.of_but hbk (.inr rfl)); clear hbk))
  go_upto_region 8 with fail
  have e3 : wk.cell? ⟨c, 3, none⟩ = some (.int .i64 H.t) := hck.cell 3
  have e4 : wk.cell? ⟨c, 4, none⟩ = some (.int .i64 H.v) := hck.cell 4
  have e5 : wk.cell? ⟨c, 5, none⟩ = some (.int .i64 H.q) := hck.cell 5
  have g3 : wk.frozen? ⟨c, 3, none⟩ = false := hck.frozen 3
  have g4 : wk.frozen? ⟨c, 4, none⟩ = false := hck.frozen 4
  have g5 : wk.frozen? ⟨c, 5, none⟩ = false := hck.frozen 5
  have y0 : wk.cell? ⟨w.heap.size, 0, none⟩ = some (.int .i64 x.t) := hxk.cell 0
  have y1 : wk.cell? ⟨w.heap.size, 1, none⟩ = some (.int .i64 x.v) := hxk.cell 1
  have y2 : wk.cell? ⟨w.heap.size, 2, none⟩ = some (.int .i64 x.q) := hxk.cell 2
  clear hSk hS0 hkb
  go_wp2_with fail
  go_ret2
  refine ⟨rfl, ((hck.set_ 3 (.int .i64 x.t)).set_ 4 (.int .i64 x.v)).set_ 5 (.int .i64 x.q), ?_, ?_⟩
  · exact ((hzk.setOther hcs.symm _).setOther hcs.symm _).setOther hcs.symm _
  · exact ((hbt.set_ 3 _).set_ 4 _).set_ 5 _

set_option maxRecDepth 100000 in
set_option maxHeartbeats 4000000 in
/-- It is not accepted: the held sample is the new pivot. -/
theorem process_shut (c s : Nat) (d m : Int) (H P x : Smp) (b : Bool) (lo hi : Int × Int) (w : World) (hc : Blk w c 119 (compCells d m (some ⟨s, 0, none⟩) H)) (hs : Blk w s 162 (spanCells d m P b false lo hi)) (hq : x.q = P.q)
    (hP : FitP P) (hx : FitP x) (hd : 0 ≤ d ∧ d ≤ 2000000) (hlo : FitS lo) (hhi : FitS hi) (hB : (!b || accI m P x lo hi) = false) (hH : FitP H) (hHq : x.q = H.q) :
    Calls Try.prog 70 #[.pointer (some ⟨c, 0, none⟩), .agg #[.int .i64 x.t, .int .i64 x.v, .int .i64 x.q]] w fun e w' => ∃ g, e = .returned (.tuple #[.bool true, .bool false]) ∧ w.heap.size ≤ g ∧
      Blk w' c 119 (compCells d m (some ⟨g, 0, none⟩) x) ∧ Blk w' g 162 (spanCells d m H true false (x.v + -d - H.v, x.t - H.t) (x.v + d - H.v, x.t - H.t)) ∧ But2 c s w w' := by
  have hf0 : FitS (0, 0) := by unfold FitS; simp
  have hadd2 := fun (g : Nat) (w : World) (h : Blk w g 162 (spanCells d m H false false (0, 0) (0, 0))) => spanAdd_any g d m H x false (0, 0) (0, 0) w h hH hx hHq hd hf0 hf0
  have HADD2 := Lib.hid hadd2
  clear hadd2 hHq
  have hk : KP w c w.heap.size (compCells d m (some ⟨s, 0, none⟩) H) x (w.alloc (.cells #[.int .i64 x.t, .int .i64 x.v, .int .i64 x.q] 57)) :=
    ⟨hc.alloc _, Blk.new _ _ _, (Below.refl _ w).alloc (Nat.le_refl _) _⟩
  have hs2 := hs.alloc (.cells #[.int .i64 x.t, .int .i64 x.v, .int .i64 x.q] 57)
  have hcw : c < w.heap.size := hc.lt
  have hsw : s < w.heap.size := hs.lt
  have hcs : c ≠ s := by
    rintro rfl
    exact hc.no (e := 162) (by decide) _ _ hs
  have hne : w.heap.size ≠ c := by omega
  have hns : w.heap.size ≠ s := by omega
  have hqq : (P.q != x.q) = false := by rw [hq]; simp
  have hadd := fun (w : World) (h : Blk w s 162 (spanCells d m P b false lo hi)) => spanAdd_any s d m P x b lo hi w h hP hx hq hd hlo hhi
  rw [hB] at hadd
  have HADD := Lib.hid hadd
  clear hc hs hq hadd hB
  go_enter Try.func70, Try.ntmps70
  go_wp2_with fail
  generalize w.alloc (.cells #[.int .i64 x.t, .int .i64 x.v, .int .i64 x.q] 57) = wa at *
  have c2 : wa.cell? ⟨c, 2, none⟩ = some (.pointer (some ⟨s, 0, none⟩)) := hk.cp.cell 2
  have s4 : wa.cell? ⟨s, 4, none⟩ = some (.int .i64 P.q) := hs2.cell 4
  have a2 : wa.cell? ⟨w.heap.size, 2, none⟩ = some (.int .i64 x.q) := hk.bx.cell 2
  go_quiet (fail)
  go_upto_region 4 with fail
  have hkb := hk.drewN nq
  have hsb := hs2.drewN nq
  generalize wa.drewN nq = wb at *
  clear c2 s4 a2 hk hs2
  have hS0 : (wb.drew).cell? ⟨c, 2, none⟩ = some (.pointer (some ⟨s, 0, none⟩)) ∧ (wb.drew).cell? ⟨w.heap.size, 0, none⟩ = some (.int .i64 x.t) ∧ (wb.drew).cell? ⟨w.heap.size, 1, none⟩ = some (.int .i64 x.v) ∧ (wb.drew).cell? ⟨w.heap.size, 2, none⟩ = some (.int .i64 x.q) := ⟨(hkb.drew).cp.cell 2, (hkb.drew).bx.cell 0, (hkb.drew).bx.cell 1, (hkb.drew).bx.cell 2⟩
  go_region_held3 (fun w' => (w').cell? ⟨c, 2, none⟩ = some (.pointer (some ⟨s, 0, none⟩)) ∧ (w').cell? ⟨w.heap.size, 0, none⟩ = some (.int .i64 x.t) ∧ (w').cell? ⟨w.heap.size, 1, none⟩ = some (.int .i64 x.v) ∧ (w').cell? ⟨w.heap.size, 2, none⟩ = some (.int .i64 x.q))
    (first | with_reducible exact hSk | with_reducible exact hS0)
    (first
    | (go_at_call 108; (with_reducible refine (HADD.out _ hsb.drew).mono ?_); rintro e wk ⟨rfl, hzk, hbk⟩; have hck := hkb.cp.drew.but hbk hcs; have hxk := hkb.bx.drew.but hbk hns; have hSk : (wk).cell? ⟨c, 2, none⟩ = some (.pointer (some ⟨s, 0, none⟩)) ∧ (wk).cell? ⟨w.heap.size, 0, none⟩ = some (.int .i64 x.t) ∧ (wk).cell? ⟨w.heap.size, 1, none⟩ = some (.int .i64 x.v) ∧ (wk).cell? ⟨w.heap.size, 2, none⟩ = some (.int .i64 x.q) := ⟨hck.cell 2, hxk.cell 0, hxk.cell 1, hxk.cell 2⟩; have hbt : But2 c s w wk := (But2.of_below (hkb.drew.bl)).trans (But2.of_but hbk (.inr rfl)); clear hbk))
  go_upto_region 6 with fail
  have hSz0 : (wk.drew).cell? ⟨c, 0, none⟩ = some (.int .i64 d) ∧ (wk.drew).cell? ⟨c, 1, none⟩ = some (.int .i64 m) ∧ (wk.drew).cell? ⟨c, 3, none⟩ = some (.int .i64 H.t) ∧ (wk.drew).cell? ⟨c, 4, none⟩ = some (.int .i64 H.v) ∧ (wk.drew).cell? ⟨c, 5, none⟩ = some (.int .i64 H.q) := ⟨(hck.drew).cell 0, (hck.drew).cell 1, (hck.drew).cell 3, (hck.drew).cell 4, (hck.drew).cell 5⟩
  clear hSk hS0 hkb hsb HADD
  go_region_held3 (fun w' => (w').cell? ⟨c, 0, none⟩ = some (.int .i64 d) ∧ (w').cell? ⟨c, 1, none⟩ = some (.int .i64 m) ∧ (w').cell? ⟨c, 3, none⟩ = some (.int .i64 H.t) ∧ (w').cell? ⟨c, 4, none⟩ = some (.int .i64 H.v) ∧ (w').cell? ⟨c, 5, none⟩ = some (.int .i64 H.q))
    (first | with_reducible exact hSp _ | with_reducible exact hSm | with_reducible exact hSz0)
    (first
    | (go_at_call 107; (with_reducible refine (newSpan_any d m H _).mono ?_); rintro e wm ⟨g, rfl, hg, hzg, hbm⟩; have hcm := hck.drew.below hbm hck.drew.lt; have hxm := hxk.drew.below hbm hxk.drew.lt; have hSm : (wm).cell? ⟨c, 0, none⟩ = some (.int .i64 d) ∧ (wm).cell? ⟨c, 1, none⟩ = some (.int .i64 m) ∧ (wm).cell? ⟨c, 3, none⟩ = some (.int .i64 H.t) ∧ (wm).cell? ⟨c, 4, none⟩ = some (.int .i64 H.v) ∧ (wm).cell? ⟨c, 5, none⟩ = some (.int .i64 H.q) := ⟨(hcm).cell 0, (hcm).cell 1, (hcm).cell 3, (hcm).cell 4, (hcm).cell 5⟩; have k2 : wm.cell? ⟨c, 2, none⟩ = some (.pointer (some ⟨s, 0, none⟩)) := hcm.cell 2; have f2 : wm.frozen? ⟨c, 2, none⟩ = false := hcm.frozen 2; have hSp : ∀ u, (wm.setCell ⟨c, 2, none⟩ u).cell? ⟨c, 0, none⟩ = some (.int .i64 d) ∧ (wm.setCell ⟨c, 2, none⟩ u).cell? ⟨c, 1, none⟩ = some (.int .i64 m) ∧ (wm.setCell ⟨c, 2, none⟩ u).cell? ⟨c, 3, none⟩ = some (.int .i64 H.t) ∧ (wm.setCell ⟨c, 2, none⟩ u).cell? ⟨c, 4, none⟩ = some (.int .i64 H.v) ∧ (wm.setCell ⟨c, 2, none⟩ u).cell? ⟨c, 5, none⟩ = some (.int .i64 H.q) := fun u => ⟨(hcm.set_ 2 u).cell 0, (hcm.set_ 2 u).cell 1, (hcm.set_ 2 u).cell 3, (hcm.set_ 2 u).cell 4, (hcm.set_ 2 u).cell 5⟩; have hbtm : But2 c s w wm := hbt.trans (But2.of_below ⟨hbm.os, hbm.tape, hbm.output, hbm.size, hbm.block⟩); clear hbm))
  have hgw : w.heap.size ≤ g := Nat.le_trans hbt.size hg
  have hgc : g ≠ c := by omega
  have hgx : w.heap.size ≠ g := by
    rintro rfl
    exact hxm.no (e := 162) (by decide) _ _ hzg
  have hcn := hcm.set_ 2 (.pointer (some ⟨g, 0, none⟩))
  have hzn := hzg.setOther (p := ⟨c, 2, none⟩) hgc (.pointer (some ⟨g, 0, none⟩))
  have hxn := hxm.setOther (p := ⟨c, 2, none⟩) hne (.pointer (some ⟨g, 0, none⟩))
  have hbtn := hbtm.set_ 2 (.pointer (some ⟨g, 0, none⟩))
  clear k2 f2 hSm hSp hSz0 hcm hzg hxm hbtm hck hxk hzk hbt
  go_upto_region 7 with fail
  generalize wm.setCell ⟨c, 2, none⟩ (.pointer (some ⟨g, 0, none⟩)) = wn at *
  have hcn' : Blk wn c 119 (compCells d m (some ⟨g, 0, none⟩) H) := hcn
  clear hcn
  have hSn0 : (wn.drew).cell? ⟨c, 2, none⟩ = some (.pointer (some ⟨g, 0, none⟩)) ∧ (wn.drew).cell? ⟨w.heap.size, 0, none⟩ = some (.int .i64 x.t) ∧ (wn.drew).cell? ⟨w.heap.size, 1, none⟩ = some (.int .i64 x.v) ∧ (wn.drew).cell? ⟨w.heap.size, 2, none⟩ = some (.int .i64 x.q) := ⟨hcn'.drew.cell 2, hxn.drew.cell 0, hxn.drew.cell 1, hxn.drew.cell 2⟩
  go_region_held3 (fun w' => (w').cell? ⟨c, 2, none⟩ = some (.pointer (some ⟨g, 0, none⟩)) ∧ (w').cell? ⟨w.heap.size, 0, none⟩ = some (.int .i64 x.t) ∧ (w').cell? ⟨w.heap.size, 1, none⟩ = some (.int .i64 x.v) ∧ (w').cell? ⟨w.heap.size, 2, none⟩ = some (.int .i64 x.q))
    (first | with_reducible exact hSo | with_reducible exact hSn0)
    (first
    | (go_at_call 108; (with_reducible refine (HADD2.out g _ hzn.drew).mono ?_); rintro e wo ⟨rfl, hzo, hbo⟩; have hco := hcn'.drew.but hbo hgc.symm; have hxo := hxn.drew.but hbo hgx; have hSo : (wo).cell? ⟨c, 2, none⟩ = some (.pointer (some ⟨g, 0, none⟩)) ∧ (wo).cell? ⟨w.heap.size, 0, none⟩ = some (.int .i64 x.t) ∧ (wo).cell? ⟨w.heap.size, 1, none⟩ = some (.int .i64 x.v) ∧ (wo).cell? ⟨w.heap.size, 2, none⟩ = some (.int .i64 x.q) := ⟨hco.cell 2, hxo.cell 0, hxo.cell 1, hxo.cell 2⟩; have hbto : But2 c s w wo := hbtn.fresh (But2.of_but (show But g wn wo from ⟨hbo.os, hbo.tape, hbo.output, hbo.size, hbo.block⟩) (.inr rfl)) hgw; clear hbo))
  go_upto_region 8 with fail
  have e3 : wo.cell? ⟨c, 3, none⟩ = some (.int .i64 H.t) := hco.cell 3
  have e4 : wo.cell? ⟨c, 4, none⟩ = some (.int .i64 H.v) := hco.cell 4
  have e5 : wo.cell? ⟨c, 5, none⟩ = some (.int .i64 H.q) := hco.cell 5
  have g3 : wo.frozen? ⟨c, 3, none⟩ = false := hco.frozen 3
  have g4 : wo.frozen? ⟨c, 4, none⟩ = false := hco.frozen 4
  have g5 : wo.frozen? ⟨c, 5, none⟩ = false := hco.frozen 5
  have y0 : wo.cell? ⟨w.heap.size, 0, none⟩ = some (.int .i64 x.t) := hxo.cell 0
  have y1 : wo.cell? ⟨w.heap.size, 1, none⟩ = some (.int .i64 x.v) := hxo.cell 1
  have y2 : wo.cell? ⟨w.heap.size, 2, none⟩ = some (.int .i64 x.q) := hxo.cell 2
  clear hSo hSn0
  go_wp2_with fail
  go_ret2
  refine ⟨g, rfl, hgw, ((hco.set_ 3 (.int .i64 x.t)).set_ 4 (.int .i64 x.v)).set_ 5 (.int .i64 x.q), ?_, ?_⟩
  · exact ((hzo.setOther hgc _).setOther hgc _).setOther hgc _
  · exact ((hbto.set_ 3 _).set_ 4 _).set_ 5 _
end Go.Proofs.Ytmcojidaimeijaa
