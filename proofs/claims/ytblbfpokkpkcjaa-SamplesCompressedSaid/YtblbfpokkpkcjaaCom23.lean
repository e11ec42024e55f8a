import Derived.Test.YtblbfpokkpkcjaaCom14
import Derived.Test.YtblbfpokkpkcjaaCom17
/- The contract of a compressor's Add (package compress). -/

namespace Go.Proofs.Ytblbfpokkpkcjaa
open Go.RowKit
set_option linter.unusedVariables false
set_option linter.unusedSimpArgs false

/-- The error of Add. -/
def addErr (l : List Smp) (x : Smp) : Int := if smpErr x ≠ 0 then smpErr x else if 0 < l.length ∧ x.t ≤ (atS l (l.length - 1)).t then 7 else 0
theorem FitL.snoc {l : List Smp} {x : Smp} (h : FitL l) (hx : addErr l x = 0) : FitL (l ++ [x]) := by
  have h0 : smpErr x = 0 := by
    by_cases h0 : smpErr x = 0
    · exact h0
    · unfold addErr at hx; rw [if_pos h0] at hx; exact absurd hx h0
  have h1 : ¬ (0 < l.length ∧ x.t ≤ (atS l (l.length - 1)).t) := by
    intro h1
    unfold addErr at hx
    rw [if_neg (by simpa using h0), if_pos h1] at hx
    omega
  obtain ⟨g1, g2, g3, g4⟩ := smpErr_good h0
  have e := fun i (hi : i < l.length) => atS_snoc l x i hi
  refine ⟨⟨fun i k hik hk => ?_, fun j hj hq => ?_⟩, fun i hi => ?_⟩
  · by_cases hkl : k = l.length
    · subst hkl
      rw [atS_last, e i hik]
      by_cases hil : i = l.length - 1
      · subst hil
        have : ¬ x.t ≤ (atS l (l.length - 1)).t := fun h => h1 ⟨by omega, h⟩
        omega
      · have := h.ok.lt i (l.length - 1) (by omega) (by omega)
        have : ¬ x.t ≤ (atS l (l.length - 1)).t := fun h => h1 ⟨by omega, h⟩
        omega
    · have hkl2 : k < l.length := by simp at hk; omega
      rw [e i (by omega), e k hkl2]; exact h.ok.lt i k hik hkl2
  · by_cases hjl : j = l.length
    · subst hjl; rw [atS_last] at hq ⊢; exact g4 hq
    · have : j < l.length := by simp at hj; omega
      rw [e j this] at hq ⊢; exact h.ok.bad j this hq
  · by_cases hil : i = l.length
    · subst hil; rw [atS_last]; exact ⟨g3, g1⟩
    · have : i < l.length := by simp at hi; omega
      rw [e i this]; exact h.fit i this
theorem addErr_zero {l : List Smp} {x : Smp} (hx : addErr l x = 0) : smpErr x = 0 ∧ ¬ (0 < l.length ∧ x.t ≤ (atS l (l.length - 1)).t) := by
  have h0 : smpErr x = 0 := by
    by_cases h0 : smpErr x = 0
    · exact h0
    · unfold addErr at hx; rw [if_pos h0] at hx; exact absurd hx h0
  refine ⟨h0, fun h1 => ?_⟩
  unfold addErr at hx
  rw [if_neg (by simpa using h0), if_pos h1] at hx
  omega

/-- The compressor's two cells that Add reads first. -/
theorem CompSt.held {B c : Nat} {w : World} {d m : Int} {l : List Smp} (h : CompSt B w c d m l) : ∃ sp H, Blk w c 152 (compCells d m sp H) ∧ (l = [] → sp = none) ∧ (0 < l.length → (∃ s, sp = some ⟨s, 0, none⟩) ∧ H = atS l (l.length - 1)) := by
  obtain ⟨_, ⟨rfl, H, hc⟩ | ⟨hl, s, lo, hi, _, hc, _⟩⟩ := h
  · exact ⟨none, H, hc, fun _ => rfl, fun h => by simp at h⟩
  · exact ⟨_, _, hc, fun h => by subst h; simp at hl, fun _ => ⟨⟨s, rfl⟩, rfl⟩⟩

set_option maxRecDepth 100000 in
set_option maxHeartbeats 1000000 in
theorem add_err (B c : Nat) (d m : Int) (l : List Smp) (x : Smp) (w : World) (hS : CompSt B w c d m l) (hE : addErr l x ≠ 0) :
    Calls Try.prog 48 #[.pointer (some ⟨c, 0, none⟩), .agg #[.int .i64 x.t, .int .i64 x.v, .int .i64 x.q]] w fun e w' => e = .returned (.tuple #[.slice none 0 0, .int .i64 (addErr l x)]) ∧ Below w.heap.size w w' := by
  obtain ⟨sp, H, hc, hsp0, hsp1⟩ := hS.held
  have hcs := fun w => checkSample_any x w
  unfold Smp.agg at hcs
  by_cases h0 : smpErr x = 0
  · have h1 : 0 < l.length ∧ x.t ≤ (atS l (l.length - 1)).t := by
      by_cases h1 : 0 < l.length ∧ x.t ≤ (atS l (l.length - 1)).t
      · exact h1
      · unfold addErr at hE; rw [if_neg (by simpa using h0), if_neg h1] at hE; exact absurd rfl hE
    have he : addErr l x = 7 := by unfold addErr; rw [if_neg (by simpa using h0), if_pos h1]
    obtain ⟨⟨s, rfl⟩, rfl⟩ := hsp1 h1.1
    rw [he]
    rw [h0] at hcs
    have hle : x.t ≤ (atS l (l.length - 1)).t := h1.2
    generalize atS l (l.length - 1) = H at *
    have hlt := hc.lt
    have hlt1 : c < w.heap.size + 1 := by omega
    have hlt2 : c < w.heap.size + 1 + 1 := by omega
    have c2 : w.cell? ⟨c, 2, none⟩ = some (.pointer (some ⟨s, 0, none⟩)) := hc.cell 2
    have c3 : w.cell? ⟨c, 3, none⟩ = some (.int .i64 H.t) := hc.cell 3
    have c4 : w.cell? ⟨c, 4, none⟩ = some (.int .i64 H.v) := hc.cell 4
    have c5 : w.cell? ⟨c, 5, none⟩ = some (.int .i64 H.q) := hc.cell 5
    clear hc hsp0 hsp1 hE he h0 h1 hS
    go_enter Try.func48, Try.ntmps48
    go_wp2_with (go_at_call 128; refine (hcs _).mono ?_; rintro e w' ⟨rfl, rfl⟩)
    go_ret2
    exact ⟨rfl, (((Below.refl _ w).alloc (Nat.le_refl _) _).alloc (by simp) _).alloc (by simp; omega) _⟩
  · have he : addErr l x = smpErr x := by unfold addErr; rw [if_pos h0]
    rw [he]
    have hne : (smpErr x != 0) = true := by simpa using h0
    generalize smpErr x = E at *
    clear hE he h0 hsp0 hsp1 hc hS
    go_enter Try.func48, Try.ntmps48
    go_wp2_with (go_at_call 128; refine (hcs _).mono ?_; rintro e w' ⟨rfl, rfl⟩)
    go_ret2
    exact ⟨rfl, ((Below.refl _ w).alloc (Nat.le_refl _) _).alloc (by simp) _⟩

theorem CompSt.grown {B c base size n : Nat} {w w' : World} {d m : Int} {l : List Smp} {v : Value} {e : TypeId} {xs : List Value} (h : CompSt B w c d m l) (ho : w.ownsRow base e size v n xs) (h1 : e ≠ 152) (h2 : e ≠ 206) (hg : w.grownBy w' v.ownBlock) : CompSt B w' c d m l := by
  refine h.keep fun b _ hlt cur t fr hh ht => hg.block b hlt ?_
  intro hb
  rcases ho.2 with ⟨rfl, _⟩ | ⟨g, cap, cur', rfl, _, hh', _⟩
  · simp [Value.ownBlock] at hb
  · simp [Value.ownBlock] at hb
    subst hb
    rw [hh'] at hh
    injection hh with hh
    injection hh with _ hh
    rcases ht with rfl | rfl
    · exact h1 hh
    · exact h2 hh
/-- What Add returns of a sample that is right, and what it leaves. -/
def AddEnd (B c : Nat) (d m : Int) (l : List Smp) (x : Smp) (w : World) (e : Ending) (w' : World) : Prop :=
  ∃ (v : Value) (out : List Smp), e = .returned (.tuple #[v, .int .i64 0]) ∧ arch d m (l ++ [x]) = arch d m l ++ out ∧ out.length ≤ 2 ∧ w'.ownsRow w.heap.size 71 3 v out.length (cellsOf out) ∧ CompSt B w' c d m (l ++ [x]) ∧ Cg B w w'

set_option maxRecDepth 100000 in
set_option maxHeartbeats 2000000 in
theorem add_ok (B c : Nat) (d m : Int) (l : List Smp) (x : Smp) (w : World) (hS : CompSt B w c d m l) (hl : FitL l) (hd : 0 ≤ d ∧ d ≤ 2000000) (hBw : B ≤ w.heap.size) (hE : addErr l x = 0) :
    Calls Try.prog 48 #[.pointer (some ⟨c, 0, none⟩), .agg #[.int .i64 x.t, .int .i64 x.v, .int .i64 x.q]] w (AddEnd B c d m l x w) := by
  obtain ⟨sp, H, hc, hsp0, hsp1⟩ := hS.held
  obtain ⟨h0, h1⟩ := addErr_zero hE
  have hcs := fun w => checkSample_any x w
  unfold Smp.agg at hcs
  rw [h0] at hcs
  have hlt := hc.lt
  have hlt1 : c < w.heap.size + 1 := by omega
  have hlt2 : c < w.heap.size + 1 + 1 := by omega
  have c2 : w.cell? ⟨c, 2, none⟩ = some (.pointer sp) := hc.cell 2
  have c3 : w.cell? ⟨c, 3, none⟩ = some (.int .i64 H.t) := hc.cell 3
  have c4 : w.cell? ⟨c, 4, none⟩ = some (.int .i64 H.v) := hc.cell 4
  have c5 : w.cell? ⟨c, 5, none⟩ = some (.int .i64 H.q) := hc.cell 5
  have hb3 : Below w.heap.size w (((w.alloc (.cells #[.int .i64 x.t, .int .i64 x.v, .int .i64 x.q] 71)).alloc (.cells #[.int .i64 x.t, .int .i64 x.v, .int .i64 x.q] 71)).alloc (.cells #[.int .i64 H.t, .int .i64 H.v, .int .i64 H.q] 71)) :=
    (((Below.refl _ w).alloc (Nat.le_refl _) _).alloc (by simp) _).alloc (by simp; omega) _
  have hbx : Blk (((w.alloc (.cells #[.int .i64 x.t, .int .i64 x.v, .int .i64 x.q] 71)).alloc (.cells #[.int .i64 x.t, .int .i64 x.v, .int .i64 x.q] 71)).alloc (.cells #[.int .i64 H.t, .int .i64 H.v, .int .i64 H.q] 71)) w.heap.size 71 #[.int .i64 x.t, .int .i64 x.v, .int .i64 x.q] := ((Blk.new _ _ _).alloc _).alloc _
  have hbh : Blk (((w.alloc (.cells #[.int .i64 x.t, .int .i64 x.v, .int .i64 x.q] 71)).alloc (.cells #[.int .i64 x.t, .int .i64 x.v, .int .i64 x.q] 71)).alloc (.cells #[.int .i64 H.t, .int .i64 H.v, .int .i64 H.q] 71)) (w.heap.size + 1 + 1) 71 #[.int .i64 H.t, .int .i64 H.v, .int .i64 H.q] := Blk.new2 _ _ _ _ _
  have HB := Lib.hid (And.intro hb3 (And.intro hbx hbh))
  have hpr := fun (w : World) (h : CompSt B w c d m l) (h2 : B ≤ w.heap.size) => process_step B c d m l x w h (hl.snoc hE) hd h2
  have HPR := Lib.hid hpr
  have HS := Lib.hid hS
  have HHL := Lib.hid (fun h => (hsp1 h).2)
  clear hb3 hbx hbh hpr hS hE h0 hl hc
  have hnn : sp = none ∨ ((∃ s, sp = some ⟨s, 0, none⟩) ∧ ¬ x.t ≤ H.t) := by
    rcases Nat.eq_zero_or_pos l.length with hz | hz
    · exact .inl (hsp0 (List.eq_nil_of_length_eq_zero hz))
    · obtain ⟨hs, hh⟩ := hsp1 hz
      subst hh
      exact .inr ⟨hs, fun h => h1 ⟨hz, h⟩⟩
  clear hsp0 hsp1 h1
  rcases hnn with rfl | ⟨⟨s, rfl⟩, hgt⟩
  all_goals
    go_enter Try.func48, Try.ntmps48
    go_upto_region 8 with (go_at_call 128; refine (hcs _).mono ?_; rintro e w' ⟨rfl, rfl⟩)
    obtain ⟨hb3, hbx, hbh⟩ := HB.out
    generalize ((w.alloc (.cells #[.int .i64 x.t, .int .i64 x.v, .int .i64 x.q] 71)).alloc (.cells #[.int .i64 x.t, .int .i64 x.v, .int .i64 x.q] 71)).alloc (.cells #[.int .i64 H.t, .int .i64 H.v, .int .i64 H.q] 71) = wa at *
    have a0 : wa.cell? ⟨w.heap.size, 0, none⟩ = some (.int .i64 x.t) := hbx.cell 0
    have a1 : wa.cell? ⟨w.heap.size, 1, none⟩ = some (.int .i64 x.v) := hbx.cell 1
    have a2 : wa.cell? ⟨w.heap.size, 2, none⟩ = some (.int .i64 x.q) := hbx.cell 2
    clear c2 c3 c4 c5 HB hcs
    go_wp2_with fail
    refine (HPR.out wa (HS.out.below hb3) (Nat.le_trans hBw hb3.size)).mono ?_
    rintro e wb ⟨bf, nw, rfl, harch, hSb, hcg, hbf⟩
    have hbxb := hcg.blk hbx (by decide) (by decide)
    have hbhb := hcg.blk hbh (by decide) (by decide)
    have hszb := hcg.bl.size
    have hsz3 := hb3.size
    have x0 : wb.cell? ⟨w.heap.size, 0, none⟩ = some (.int .i64 x.t) := hbxb.cell 0
    have x1 : wb.cell? ⟨w.heap.size, 1, none⟩ = some (.int .i64 x.v) := hbxb.cell 1
    have x2 : wb.cell? ⟨w.heap.size, 2, none⟩ = some (.int .i64 x.q) := hbxb.cell 2
    have y0 : wb.cell? ⟨w.heap.size + 1 + 1, 0, none⟩ = some (.int .i64 H.t) := hbhb.cell 0
    have y1 : wb.cell? ⟨w.heap.size + 1 + 1, 1, none⟩ = some (.int .i64 H.v) := hbhb.cell 1
    have y2 : wb.cell? ⟨w.heap.size + 1 + 1, 2, none⟩ = some (.int .i64 H.q) := hbhb.cell 2
    have hlx := hbxb.lt
    have hly := hbhb.lt
    have hcgw : Cg B w wb := (Cg.of_below hb3 hBw).trans hcg
    have HARCH := Lib.hid harch
    have HBF := Lib.hid hbf
    clear harch hbf a0 a1 a2 hbx hbh hcg hb3
    cases bf <;> cases nw
    · go_wp2_with fail
      go_ret2
      exact ⟨_, [], rfl, by rw [HARCH.out]; simp, by simp, World.ownsRow_nil _ _ _ _, hSb, hcgw⟩
    · go_wp2_with (at_builtin; go_loud (refine wpList_append_smp rfl (.tmp 44) (.tmp 46) rfl w.heap.size (.slice none 0 0) 0 [] rfl (World.ownsRow_nil _ _ _ _) wb.heap.size rfl x (by exact Blk.new _ _ _) (by omega) (by simp; omega) ?_); intro v1 wc hown1 hgrow1)
      have hbc : Below wb.heap.size wb wc := ((Below.refl _ wb).alloc (Nat.le_refl _) _).trans (below_grown (World.ownsRow_nil _ wb.heap.size 71 3) (by simp) hgrow1)
      clear hgrow1
      go_ret2
      exact ⟨_, [x], rfl, by rw [HARCH.out]; simp, by simp, hown1, hSb.below hbc, hcgw.trans (Cg.of_below hbc (by omega))⟩
    · have hH := HHL.out (HBF.out rfl)
      have HH := Lib.hid hH
      clear hH
      go_wp2_with (at_builtin; go_loud (refine wpList_append_smp rfl (.tmp 39) (.tmp 41) rfl w.heap.size (.slice none 0 0) 0 [] rfl (World.ownsRow_nil _ _ _ _) wb.heap.size rfl H (by exact Blk.new _ _ _) (by omega) (by simp; omega) ?_); intro v1 wc hown1 hgrow1)
      have hbc : Below wb.heap.size wb wc := ((Below.refl _ wb).alloc (Nat.le_refl _) _).trans (below_grown (World.ownsRow_nil _ wb.heap.size 71 3) (by simp) hgrow1)
      clear hgrow1
      go_ret2
      exact ⟨_, [H], rfl, by rw [HARCH.out, ← HH.out]; simp, by simp, hown1, hSb.below hbc, hcgw.trans (Cg.of_below hbc (by omega))⟩
    · have hH := HHL.out (HBF.out rfl)
      have HH := Lib.hid hH
      clear hH
      go_wp2_with (first
        | (at_builtin; refine wpList_append_smp rfl (.tmp 39) (.tmp 41) rfl w.heap.size (.slice none 0 0) 0 [] rfl (World.ownsRow_nil _ _ _ _) wb.heap.size rfl H (by exact Blk.new _ _ _) (by omega) (by simp; omega) ?_; intro v1 wc hown1 hgrow1; have hbc : Below wb.heap.size wb wc := ((Below.refl _ wb).alloc (Nat.le_refl _) _).trans (below_grown (World.ownsRow_nil _ wb.heap.size 71 3) (by simp) hgrow1); have hxc := hbxb.below hbc hlx; have z0 : wc.cell? ⟨w.heap.size, 0, none⟩ = some (.int .i64 x.t) := hxc.cell 0; have z1 : wc.cell? ⟨w.heap.size, 1, none⟩ = some (.int .i64 x.v) := hxc.cell 1; have z2 : wc.cell? ⟨w.heap.size, 2, none⟩ = some (.int .i64 x.q) := hxc.cell 2; have hsc := hbc.size; have HO1 := Lib.hid hown1; clear hown1 hgrow1 x0 x1 x2 y0 y1 y2)
        | (at_builtin; go_loud (refine wpList_append_smp rfl (.tmp 44) (.tmp 46) rfl w.heap.size v1 1 [H] rfl (by exact own_keep HO1.out fun b _ _ hh => Below.heap_alloc _ _ _ (lt_of_heap hh)) wc.heap.size rfl x (by exact Blk.new _ _ _) (by omega) (by simp; omega) ?_); intro v2 we hown2 hgrow2))
      have hbe : Below w.heap.size wc we := ((Below.refl _ wc).alloc (by omega) _).trans (below_grown (own_keep HO1.out fun b _ _ hh => Below.heap_alloc _ _ _ (lt_of_heap hh)) (by simp; omega) hgrow2)
      have hSe := ((hSb.below hbc).below ((Below.refl _ wc).alloc (Nat.le_refl _) (.cells #[.int .i64 x.t, .int .i64 x.v, .int .i64 x.q] 71))).grown (own_keep HO1.out fun b _ _ hh => Below.heap_alloc _ _ _ (lt_of_heap hh)) (by decide) (by decide) hgrow2
      have hce : Cg B w we := ⟨hcgw.bl.trans ((hbc.mono (by omega)).trans (hbe.mono hBw)), fun b cur t fr hh t1 t2 => (hbe.block b (lt_of_heap hh)).trans ((hbc.block b (by have := lt_of_heap hh; omega)).trans (hcgw.ty b cur t fr hh t1 t2))⟩
      go_ret2
      exact ⟨_, [H, x], rfl, by rw [HARCH.out, ← HH.out]; simp, by simp, hown2, hSe, hce⟩
end Go.Proofs.Ytblbfpokkpkcjaa
