import Derived.Test.YtblbfpokkpkcjaaCom23
/- The contracts of New and of a compressor's Flush (package compress), and of the reference's AddFault. -/

namespace Go.Proofs.Ytblbfpokkpkcjaa
open Go.RowKit
set_option linter.unusedVariables false
set_option linter.unusedSimpArgs false

def flushOut (d m : Int) (l : List Smp) : List Smp := if 0 < l.length ∧ beg d m l = true then [atS l (l.length - 1)] else []
theorem flush_end (d m : Int) (l : List Smp) : choI l (compressed d m l) = arch d m l ++ flushOut d m l := by
  rcases Nat.eq_zero_or_pos l.length with h | h
  · obtain rfl := List.eq_nil_of_length_eq_zero h
    simp [compressed, choI, arch, compTo, flushOut]
  · rw [end_step h]
    unfold flushOut
    by_cases hb : beg d m l = true
    · rw [if_pos hb, if_pos ⟨h, hb⟩]
    · rw [if_neg hb, if_neg (fun hh => hb hh.2)]
theorem CompSt.lens {B c : Nat} {w : World} {d m : Int} {l : List Smp} (h : CompSt B w c d m l) : (l = [] ∧ ∃ H, Blk w c 152 (compCells d m none H)) ∨ (0 < l.length ∧ ∃ s lo hi, Blk w c 152 (compCells d m (some ⟨s, 0, none⟩) (atS l (l.length - 1))) ∧ Blk w s 206 (spanCells d m (atS l (piv d m l)) (beg d m l) false lo hi)) := by
  obtain ⟨_, h | ⟨hl, s, lo, hi, _, hc, hs, _⟩⟩ := h
  · exact .inl h
  · exact .inr ⟨hl, s, lo, hi, hc, hs⟩

/-- What Flush returns, and what it leaves. -/
def FlushEnd (B c : Nat) (d m : Int) (l : List Smp) (w : World) (e : Ending) (w' : World) : Prop :=
  ∃ v, e = .returned v ∧ w'.ownsRow w.heap.size 71 3 v (flushOut d m l).length (cellsOf (flushOut d m l)) ∧ CompSt B w' c d m [] ∧ Cg B w w'
theorem flush_stored {B c : Nat} {w : World} {d m : Int} {sp : Option Addr} {H : Smp} (hB : B ≤ c) (hc : Blk w c 152 (compCells d m sp H)) :
    CompSt B ((((w.setCell ⟨c, 2, none⟩ (.pointer none)).setCell ⟨c, 3, none⟩ (.int .i64 0)).setCell ⟨c, 4, none⟩ (.int .i64 0)).setCell ⟨c, 5, none⟩ (.int .i64 0)) c d m [] ∧ Cg B w ((((w.setCell ⟨c, 2, none⟩ (.pointer none)).setCell ⟨c, 3, none⟩ (.int .i64 0)).setCell ⟨c, 4, none⟩ (.int .i64 0)).setCell ⟨c, 5, none⟩ (.int .i64 0)) :=
  ⟨⟨hB, .inl ⟨rfl, ⟨0, 0, 0⟩, (((hc.set_ 2 (.pointer none)).set_ 3 (.int .i64 0)).set_ 4 (.int .i64 0)).set_ 5 (.int .i64 0)⟩⟩,
   Cg.of_but (((((But.refl c w).setCell (.inl rfl) _).setCell (.inl rfl) _).setCell (.inl rfl) _).setCell (.inl rfl) _) hc hB⟩

set_option maxRecDepth 100000 in
set_option maxHeartbeats 1000000 in
theorem flush_any (B c : Nat) (d m : Int) (l : List Smp) (w : World) (hS : CompSt B w c d m l) (hBw : B ≤ w.heap.size) :
    Calls Try.prog 51 #[.pointer (some ⟨c, 0, none⟩)] w (FlushEnd B c d m l w) := by
  have hBc := hS.1
  rcases hS.lens with ⟨rfl, H, hc⟩ | ⟨hl, s, lo, hi, hc, hs⟩
  · have c2 : w.cell? ⟨c, 2, none⟩ = some (.pointer none) := hc.cell 2
    have c3 : w.cell? ⟨c, 3, none⟩ = some (.int .i64 H.t) := hc.cell 3
    have c4 : w.cell? ⟨c, 4, none⟩ = some (.int .i64 H.v) := hc.cell 4
    have c5 : w.cell? ⟨c, 5, none⟩ = some (.int .i64 H.q) := hc.cell 5
    have f2 : w.frozen? ⟨c, 2, none⟩ = false := hc.frozen 2
    have f3 : w.frozen? ⟨c, 3, none⟩ = false := hc.frozen 3
    have f4 : w.frozen? ⟨c, 4, none⟩ = false := hc.frozen 4
    have f5 : w.frozen? ⟨c, 5, none⟩ = false := hc.frozen 5
    have hst := flush_stored hBc hc
    have hh := fun w h => holds_none c d m H w h
    have HC := Lib.hid (And.intro hc hst)
    have HH := Lib.hid hh
    clear hc hS hst hh
    go_enter Try.func51, Try.ntmps51
    go_wp2_with (go_at_call 107; refine (HH.out _ HC.out.1).mono ?_; rintro e w' ⟨rfl, rfl⟩)
    go_ret
    exact ⟨_, rfl, World.ownsRow_nil _ _ _ _, HC.out.2.1, HC.out.2.2⟩
  · generalize hH : atS l (l.length - 1) = H at *
    have hout : flushOut d m l = if beg d m l = true then [H] else [] := by unfold flushOut; rw [hH]; by_cases hb : beg d m l = true <;> simp [hb, hl]
    have hh := fun w h1 h2 => holds_some c s d m H (atS l (piv d m l)) (beg d m l) lo hi w h1 h2
    have c2 : w.cell? ⟨c, 2, none⟩ = some (.pointer (some ⟨s, 0, none⟩)) := hc.cell 2
    have c3 : w.cell? ⟨c, 3, none⟩ = some (.int .i64 H.t) := hc.cell 3
    have c4 : w.cell? ⟨c, 4, none⟩ = some (.int .i64 H.v) := hc.cell 4
    have c5 : w.cell? ⟨c, 5, none⟩ = some (.int .i64 H.q) := hc.cell 5
    have f2 : w.frozen? ⟨c, 2, none⟩ = false := hc.frozen 2
    have f3 : w.frozen? ⟨c, 3, none⟩ = false := hc.frozen 3
    have f4 : w.frozen? ⟨c, 4, none⟩ = false := hc.frozen 4
    have f5 : w.frozen? ⟨c, 5, none⟩ = false := hc.frozen 5
    have hst := flush_stored hBc hc
    have hlt := hc.lt
    generalize beg d m l = b at *
    have HC := Lib.hid (And.intro hc (And.intro hs hst))
    have HH := Lib.hid hh
    have HO := Lib.hid hout
    clear hc hS hst hh hout hs hl hH
    cases b
    · go_enter Try.func51, Try.ntmps51
      go_wp2_with (go_at_call 107; refine (HH.out _ HC.out.1 HC.out.2.1).mono ?_; rintro e w' ⟨rfl, rfl⟩)
      go_ret
      exact ⟨_, rfl, by rw [HO.out]; exact World.ownsRow_nil _ _ _ _, HC.out.2.2.1, HC.out.2.2.2⟩
    · go_enter Try.func51, Try.ntmps51
      go_wp2_with (first
        | (go_at_call 107; refine (HH.out _ HC.out.1 HC.out.2.1).mono ?_; rintro e w' ⟨rfl, rfl⟩)
        | (at_builtin; go_loud (refine wpList_append_smp rfl (.tmp 6) (.tmp 11) rfl w.heap.size (.slice none 0 0) 0 [] rfl (World.ownsRow_nil _ _ _ _) w.heap.size rfl H (by exact Blk.new _ _ _) (by omega) (by simp) ?_); intro v1 wc hown1 hgrow1; have hbc : Below w.heap.size w wc := ((Below.refl _ w).alloc (Nat.le_refl _) _).trans (below_grown (World.ownsRow_nil _ w.heap.size 71 3) (by simp) hgrow1); have hcc := HC.out.1.below hbc hlt; have d2 : wc.cell? ⟨c, 2, none⟩ = some (.pointer (some ⟨s, 0, none⟩)) := hcc.cell 2; have d3 : wc.cell? ⟨c, 3, none⟩ = some (.int .i64 H.t) := hcc.cell 3; have d4 : wc.cell? ⟨c, 4, none⟩ = some (.int .i64 H.v) := hcc.cell 4; have d5 : wc.cell? ⟨c, 5, none⟩ = some (.int .i64 H.q) := hcc.cell 5; have g2 : wc.frozen? ⟨c, 2, none⟩ = false := hcc.frozen 2; have g3 : wc.frozen? ⟨c, 3, none⟩ = false := hcc.frozen 3; have g4 : wc.frozen? ⟨c, 4, none⟩ = false := hcc.frozen 4; have g5 : wc.frozen? ⟨c, 5, none⟩ = false := hcc.frozen 5; have hst2 := flush_stored hBc hcc; have HST := Lib.hid (And.intro hown1 (And.intro hbc hst2)); clear hown1 hgrow1 hbc hst2 c2 c3 c4 c5 f2 f3 f4 f5))
      obtain ⟨hown1, hbc, hst2⟩ := HST.out
      go_ret
      exact ⟨_, rfl, by rw [HO.out]; exact hst2.2.own hown1 (by decide) (by decide), hst2.1, (Cg.of_below hbc hBw).trans hst2.2⟩

set_option maxRecDepth 100000 in
set_option maxHeartbeats 400000 in
theorem new_any (d m : Int) (w : World) :
    Calls Try.prog 47 #[.agg #[.int .i64 d, .int .i64 m]] w fun e w' => Below w.heap.size w w' ∧ ((doorErr d m ≠ 0 ∧ e = .returned (.tuple #[.pointer none, .int .i64 (doorErr d m)])) ∨ (doorErr d m = 0 ∧ ∃ c, e = .returned (.tuple #[.pointer (some ⟨c, 0, none⟩), .int .i64 0]) ∧ CompSt w.heap.size w' c d m [])) := by
  have hcd := fun w => checkDoor_any d m w
  have hB0 := Blk.new w 30 #[.int .i64 d, .int .i64 m]
  have HB0 := Lib.hid hB0
  clear hB0
  by_cases hz : doorErr d m = 0
  · rw [hz] at hcd ⊢
    clear hz
    go_enter Try.func47, Try.ntmps47
    go_wp2_with (go_at_call 17; refine (hcd _).mono ?_; rintro e wa ⟨rfl, hba⟩; have hD := HB0.out.below hba (by simp); have hsz := hba.size; simp at hsz; have d0 : wa.cell? ⟨w.heap.size, 0, none⟩ = some (.int .i64 d) := hD.cell 0; have d1 : wa.cell? ⟨w.heap.size, 1, none⟩ = some (.int .i64 m) := hD.cell 1)
    go_ret2
    refine ⟨?_, .inr ⟨trivial, _, rfl, by omega, .inl ⟨rfl, ⟨0, 0, 0⟩, Blk.new _ _ _⟩⟩⟩
    exact (((Below.refl _ w).alloc (Nat.le_refl _) _).trans (hba.mono (by simp))).alloc (by omega) _
  · have hne : (doorErr d m != 0) = true := by simpa using hz
    have hz2 := Lib.hid hz
    generalize doorErr d m = E at *
    clear hz
    go_enter Try.func47, Try.ntmps47
    go_wp2_with (go_at_call 17; refine (hcd _).mono ?_; rintro e wa ⟨rfl, hba⟩)
    go_ret2
    exact ⟨((Below.refl _ w).alloc (Nat.le_refl _) _).trans (hba.mono (by simp)), .inl ⟨hz2.out, rfl⟩⟩
end Go.Proofs.Ytblbfpokkpkcjaa
