/- The contract of the closure keep in the reference's CompressedOf. -/
import Derived.Test.YtmigafjimnkcmaaApn
import Derived.Test.YtmigafjimnkcmaaDist
import Derived.Test.YtmigafjimnkcmaaComm
namespace Go.Proofs.Ytmigafjimnkcmaa
open Go.RowKit
set_option linter.unusedVariables false
set_option linter.unusedSimpArgs false

/-- The two boxes of the closure: block m has the slice of all that was kept, block m + 1 the pivot. -/
structure KeSt (w : World) (m : Nat) (s : List Int × Nat) : Prop where
  row : ∃ v, Blk w m 22 #[v] ∧ w.ownsRow (m + 2) 3 1 v s.1.length (s.1.map (Value.int .i64))
  piv : Blk w (m + 1) 3 #[.int .i64 (s.2 : Int)]
theorem KeSt.below {w w' : World} {m : Nat} {s : List Int × Nat} (h : KeSt w m s) (hb : Below w.heap.size w w') : KeSt w' m s := by
  obtain ⟨⟨v, h1, h2⟩, h3⟩ := h
  exact ⟨⟨v, h1.below hb h1.lt, own_keep h2 fun b _ _ hh => hb.block b (lt_of_heap hh)⟩, h3.below hb h3.lt⟩

set_option maxRecDepth 100000 in
set_option maxHeartbeats 2000000 in
theorem keep1_any (i : Nat) (m : Nat) (s : List Int × Nat) (w : World) (hs : KeSt w m s) (hlong : s.1.length ≤ 100000) :
    Calls Try.prog 96 #[.int .i64 (i : Int), .pointer (some ⟨m, 0, none⟩), .pointer (some ⟨m + 1, 0, none⟩)] w fun e w' => e = .returned (.tuple #[]) ∧ KeSt w' m (keepI i s) ∧ Below m w w' := by
  obtain ⟨⟨v, hb, hown⟩, hl⟩ := hs
  obtain ⟨out, p⟩ := s
  simp only at hb hown hl hlong
  have hlt := hl.lt
  have d0 : w.cell? ⟨m + 1, 0, none⟩ = some (.int .i64 (p : Int)) := hl.cell 0
  have e0 : w.frozen? ⟨m + 1, 0, none⟩ = false := hl.frozen 0
  have c0 : w.cell? ⟨m, 0, none⟩ = some v := hb.cell 0
  have f0 : w.frozen? ⟨m, 0, none⟩ = false := hb.frozen 0
  have HB := Lib.hid hb
  have HL := Lib.hid hl
  have HOWN := Lib.hid hown
  clear hb hl
  rcases List.eq_nil_or_concat out with rfl | ⟨l, z, rfl⟩
  · have hv : ∃ pa ca, v = .slice pa 0 ca := by
      rcases hown.2 with ⟨rfl, _⟩ | ⟨g, cap, cur, rfl, _⟩
      · exact ⟨_, _, rfl⟩
      · exact ⟨_, _, rfl⟩
    obtain ⟨pa, ca, rfl⟩ := hv
    have HR := Lib.hid (show keepI i ([], p) = ([] ++ [(i : Int)], i) by unfold keepI; simp)
    clear hown
    go_enter Try.func96, Try.ntmps96
    go_wp2_with (at_builtin; go_loud (refine wpList_append_num rfl (.tmp 17) (.tmp 19) rfl (m + 2) _ 0 [] rfl (by exact HOWN.out.alloc _) w.heap.size rfl (i : Int) (by exact Blk.new _ _ _) (by omega) (by simp; omega) ?_); intro v1 w1 hown1 hgrow1; obtain ⟨g1, cap1, rfl, hg1, hc1, hc2⟩ := own_form hown1 (by omega); have hb2 : Below (m + 2) w w1 := ((Below.refl _ w).alloc (by omega) _).trans (below_grown (HOWN.out.alloc _) (by simp; omega) hgrow1); have k0 : w1.cell? ⟨m, 0, none⟩ = some _ := (HB.out.below hb2 (by omega)).cell 0; have g0 : w1.frozen? ⟨m, 0, none⟩ = false := (HB.out.below hb2 (by omega)).frozen 0; have k1 : w1.cell? ⟨m + 1, 0, none⟩ = some (.int .i64 (p : Int)) := (HL.out.below hb2 (by omega)).cell 0; have g1' : w1.frozen? ⟨m + 1, 0, none⟩ = false := (HL.out.below hb2 (by omega)).frozen 0; clear hgrow1 c0 f0 d0 e0)
    have hbm1 := HB.out.below hb2 (by omega)
    have hba1 := HL.out.below hb2 (by omega)
    go_end0
    refine ⟨rfl, ?_, ?_⟩
    · rw [HR.out]
      refine ⟨⟨_, (hbm1.setOne _).setOther (by simp) _, ?_⟩, (hba1.setOther (by simp) _).setOne _⟩
      simp only [List.length_append, List.length_singleton]
      refine own_low (own_low hown1 fun b h1 _ => Below.heap_setCell _ _ _ _ ?_) fun b h1 _ => Below.heap_setCell _ _ _ _ ?_
      · simp; omega
      · simp; omega
    · exact Below.setCell (B := m) (Below.setCell (B := m) (hb2.mono (by omega)) (Nat.le_refl _) _) (Nat.le_succ _) _
  · rw [List.concat_eq_append] at *
    have hlen : (l ++ [z]).length = l.length + 1 := by simp
    have hcell : ∃ g cap, v = .slice (some ⟨g, 0, none⟩) (l.length + 1) cap ∧ m + 2 ≤ g ∧ l.length + 1 ≤ cap ∧ cap ≤ maxLen ∧ g < w.heap.size ∧ w.cell? ⟨g, l.length, none⟩ = some (.int .i64 z) := by
      rw [hlen] at hown
      obtain ⟨g, cap, rfl, hg, hc1, hc2⟩ := own_form hown (by omega)
      have h1 := hown.cellAt l.length (by omega)
      refine ⟨g, cap, rfl, hg, hc1, hc2, ?_, ?_⟩
      · rcases hown.2 with ⟨h, _⟩ | ⟨g', cap', cur', h, _, hh, _⟩
        · cases h
        · cases h; exact lt_of_heap hh
      · rw [h1]; simp
    obtain ⟨g, cap, rfl, hgm, hc1, hc2, hgl, hz⟩ := hcell
    unfold maxLen at hc2
    have hl0 : ¬ ((l.length : Int) + 1 = 0) := by omega
    have hnn : l.length ≤ 100000 := by rw [hlen] at hlong; omega
    clear hown hlong
    by_cases hzi : z = (i : Int)
    · have hzi' : (z != (i : Int)) = false := by simpa using hzi
      have HR := Lib.hid (show keepI i (l ++ [z], p) = (l ++ [z], i) by unfold keepI; rw [if_pos (by simp [hzi])])
      clear hzi hlen
      go_enter Try.func96, Try.ntmps96
      go_wp2_with fail
      go_end0
      refine ⟨rfl, ?_, ?_⟩
      · rw [HR.out]
        exact ⟨⟨_, HB.out.setOther (by simp) _, own_low HOWN.out fun b h1 _ => Below.heap_setCell _ _ _ _ (by simp; omega)⟩, HL.out.setOne _⟩
      · exact Below.setCell (B := m) (Below.refl _ _) (Nat.le_succ _) _
    · have hzi' : (z != (i : Int)) = true := by simpa using hzi
      have HR := Lib.hid (show keepI i (l ++ [z], p) = ((l ++ [z]) ++ [(i : Int)], i) by unfold keepI; rw [if_neg (by simp [hzi])])
      have HLEN := Lib.hid hlen
      clear hzi hlen
      have hown' : w.ownsRow (m + 2) 3 1 (.slice (some ⟨g, 0, none⟩) (l.length + 1) cap) (l.length + 1) ((l ++ [z]).map (Value.int .i64)) := by have := HOWN.out; rwa [HLEN.out] at this
      have HOW := Lib.hid hown'
      clear hown'
      go_enter Try.func96, Try.ntmps96
      go_wp2_with (at_builtin; go_loud (refine wpList_append_num rfl (.tmp 17) (.tmp 19) rfl (m + 2) _ (l.length + 1) (l ++ [z]) rfl (by exact HOW.out.alloc _) w.heap.size rfl (i : Int) (by exact Blk.new _ _ _) (by omega) (by simp; omega) ?_); intro v1 w1 hown1 hgrow1; obtain ⟨g1, cap1, rfl, hg1, hc1, hc2⟩ := own_form hown1 (by omega); have hb2 : Below (m + 2) w w1 := ((Below.refl _ w).alloc (by omega) _).trans (below_grown (HOW.out.alloc _) (by simp; omega) hgrow1); have k0 : w1.cell? ⟨m, 0, none⟩ = some _ := (HB.out.below hb2 (by omega)).cell 0; have g0 : w1.frozen? ⟨m, 0, none⟩ = false := (HB.out.below hb2 (by omega)).frozen 0; have k1 : w1.cell? ⟨m + 1, 0, none⟩ = some (.int .i64 (p : Int)) := (HL.out.below hb2 (by omega)).cell 0; have g1' : w1.frozen? ⟨m + 1, 0, none⟩ = false := (HL.out.below hb2 (by omega)).frozen 0; clear hgrow1 c0 f0 d0 e0 hz)
      have hbm1 := HB.out.below hb2 (by omega)
      have hba1 := HL.out.below hb2 (by omega)
      go_end0
      refine ⟨rfl, ?_, ?_⟩
      · rw [HR.out]
        refine ⟨⟨_, (hbm1.setOne _).setOther (by simp) _, ?_⟩, (hba1.setOther (by simp) _).setOne _⟩
        simp only [List.length_append, List.length_singleton]
        refine own_low (own_low hown1 fun b h1 _ => Below.heap_setCell _ _ _ _ ?_) fun b h1 _ => Below.heap_setCell _ _ _ _ ?_
        · simp; omega
        · simp; omega
      · exact Below.setCell (B := m) (Below.setCell (B := m) (hb2.mono (by omega)) (Nat.le_refl _) _) (Nat.le_succ _) _
end Go.Proofs.Ytmigafjimnkcmaa
