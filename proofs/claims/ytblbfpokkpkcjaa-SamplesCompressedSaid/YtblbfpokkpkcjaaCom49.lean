import Derived.Test.YtblbfpokkpkcjaaCom46
import Derived.Test.YtblbfpokkpkcjaaCom17
import Derived.Test.YtblbfpokkpkcjaaCom06
import Derived.Test.YtblbfpokkpkcjaaCom07
import Derived.Deep.RegionHeld3
/- The contracts of ExceptionOf and DoorOf (package logmake): two numbers within bounds. -/

namespace Go.Proofs.Ytblbfpokkpkcjaa
open Go.RowKit
set_option linter.unusedVariables false
set_option linter.unusedSimpArgs false

set_option maxRecDepth 100000 in
set_option maxHeartbeats 2000000 in
theorem doorOf_went (w : World) (g : Nat) (L : List Int) (A : Option Addr) (cap k : Nat) (hS : Strm w g L A cap k) (hk : k ≤ 800000000) :
    Calls Try.prog 13 #[.pointer (some ⟨g, 0, none⟩)] w fun e w' =>
      ∃ (a b : Int) (k' : Nat), e = .returned (.agg #[.int .i64 a, .int .i64 b]) ∧ (-1099511627776 ≤ a ∧ a ≤ 1099511627776) ∧ (-1099511627776 ≤ b ∧ b ≤ 1099511627776) ∧ k' ≤ k + 7 ∧ Went w g L A cap k' w' := by
  have hlt0 := hS.lt
  have hB := Blk.new w 30 #[.int .i64 0, .int .i64 0]
  have HB := Lib.hid hB
  clear hB
  go_enter Try.func13, Try.ntmps13
  go_wp2_with fail
  refine (pick_new _ _ g L A cap k [0, 1, 1, 2, 4] (hS.alloc _) (by simp) (by omega) (by simp)).mono ?_
  rintro e w1 ⟨rfl, hw1⟩
  have hm1 := pk_mem [0, 1, 1, 2, 4] L k (by simp)
  simp only [List.mem_cons, List.not_mem_nil, or_false] at hm1
  generalize pk [0, 1, 1, 2, 4] L k = a at *
  have ha : 0 ≤ a ∧ a ≤ 1000 := by omega
  clear hm1
  go_wp2_with fail
  refine (pick_new _ _ g L A cap (k + 1) [1, 10, 30, 1000, 1000] hw1.1 rfl (by omega) (by simp)).mono ?_
  rintro e w2 ⟨rfl, hw2⟩
  have hm2 := pk_mem [1, 10, 30, 1000, 1000] L (k + 1) (by simp)
  simp only [List.mem_cons, List.not_mem_nil, or_false] at hm2
  generalize pk [1, 10, 30, 1000, 1000] L (k + 1) = b at *
  have hb : 0 ≤ b ∧ b ≤ 1000 := by omega
  clear hm2
  have hg2 : But g w w2 := ((But.refl g w).alloc _).trans (hw1.2.trans hw2.2)
  have hr2 : Blk w2 w.heap.size 30 #[.int .i64 0, .int .i64 0] := (HB.out.but hw1.2 (by omega)).but hw2.2 (by omega)
  have hs2 := hw2.1
  have hlt2 := hr2.lt
  have hf2 := Blk.new w2 30 #[.int .i64 a, .int .i64 b]
  have HR2 := Lib.hid hr2
  have HF2 := Lib.hid hf2
  clear hw1 hw2 hr2 hf2
  go_wp2_with fail
  refine (flip_went _ g L A cap (k + 2) 15 (hs2.alloc _) (by omega) (by omega)).mono ?_
  rintro e w3 ⟨rfl, hw3, hz3⟩
  have hr3 : Blk w3 w.heap.size 30 #[.int .i64 0, .int .i64 0] := (HR2.out.alloc _).but hw3.2 (by omega)
  have hf3 : Blk w3 w2.heap.size 30 #[.int .i64 a, .int .i64 b] := HF2.out.but hw3.2 (by omega)
  have hg3 : But g w w3 := (hg2.alloc _).trans hw3.2
  have hs3 := hw3.1
  have HZ3 := Lib.hid hz3
  clear hz3 hw3 hg2 hs2
  have hne : ¬ w2.heap.size = w.heap.size := by omega
  have hne' : ¬ w.heap.size = w2.heap.size := by omega
  by_cases hN : nxt L (k + 2) 15 = 0
  · have hN' : (nxt L (k + 2) 15 == 0) = true := by simpa using hN
    clear hN
    have HR3 := Lib.hid hr3
    have HF3 := Lib.hid hf3
    clear hr3 hf3
    go_wp2_with fail
    refine (odd_went _ g L A cap (k + 3) 0 2000000 hs3 (by omega) (by omega) (by omega) (by omega)).mono ?_
    rintro e w4 ⟨x, rfl, hx, hw4⟩
    have hr4 := HR3.out.but hw4.2 (by omega)
    have hf4 := HF3.out.but hw4.2 (by omega)
    go_wp2_with fail
    refine (odd_went _ g L A cap (k + 5) 1 34560000000 hw4.1 (by omega) (by omega) (by omega) (by omega)).mono ?_
    rintro e w5 ⟨y, rfl, hy, hw5⟩
    have hr5 := hr4.but hw5.2 (by omega)
    have hf5 := hf4.but hw5.2 (by omega)
    have hw5' : Went w g L A cap (k + 7) w5 := ⟨hw5.1, hg3.trans (hw4.2.trans hw5.2)⟩
    have c0 : w5.cell? ⟨w.heap.size, 0, none⟩ = some (.int .i64 0) := hr5.cell 0
    have c1 : w5.cell? ⟨w.heap.size, 1, none⟩ = some (.int .i64 0) := hr5.cell 1
    have d0 : w5.cell? ⟨w2.heap.size, 0, none⟩ = some (.int .i64 a) := hf5.cell 0
    have d1 : w5.cell? ⟨w2.heap.size, 1, none⟩ = some (.int .i64 b) := hf5.cell 1
    have fr0 : w5.frozen? ⟨w.heap.size, 0, none⟩ = false := hr5.frozen 0
    have fr1 : w5.frozen? ⟨w.heap.size, 1, none⟩ = false := hr5.frozen 1
    have fs0 : w5.frozen? ⟨w2.heap.size, 0, none⟩ = false := hf5.frozen 0
    have fs1 : w5.frozen? ⟨w2.heap.size, 1, none⟩ = false := hf5.frozen 1
    clear hr4 hf4 hr5 hf5 hw4 hw5 hg3 hs3
    go_wp2_with fail
    refine bodyPost_ret (v := .agg #[.int .i64 x, .int .i64 y]) (by simp [results, Try.results13, go_sem, c0, c1, d0, d1, hne, hne']) rfl ⟨x, y, k + 7, rfl, hx, hy, by omega, ?_⟩
    exact hw5'.below hlt0 (by (repeat (refine Below.setCell ?_ (by first | exact Nat.le_refl _ | exact Nat.le_of_lt hlt2) _)); exact Below.refl _ _)
  · have hN' : (nxt L (k + 2) 15 == 0) = false := by simpa using hN
    clear hN
    have c0 : w3.cell? ⟨w.heap.size, 0, none⟩ = some (.int .i64 0) := hr3.cell 0
    have c1 : w3.cell? ⟨w.heap.size, 1, none⟩ = some (.int .i64 0) := hr3.cell 1
    have d0 : w3.cell? ⟨w2.heap.size, 0, none⟩ = some (.int .i64 a) := hf3.cell 0
    have d1 : w3.cell? ⟨w2.heap.size, 1, none⟩ = some (.int .i64 b) := hf3.cell 1
    have fr0 : w3.frozen? ⟨w.heap.size, 0, none⟩ = false := hr3.frozen 0
    have fr1 : w3.frozen? ⟨w.heap.size, 1, none⟩ = false := hr3.frozen 1
    have fs0 : w3.frozen? ⟨w2.heap.size, 0, none⟩ = false := hf3.frozen 0
    have fs1 : w3.frozen? ⟨w2.heap.size, 1, none⟩ = false := hf3.frozen 1
    have hw3' : Went w g L A cap (k + 3) w3 := ⟨hs3, hg3⟩
    clear hr3 hf3 hg3 hs3
    go_wp2_with fail
    refine bodyPost_ret (v := .agg #[.int .i64 a, .int .i64 b]) (by simp [results, Try.results13, go_sem, c0, c1, d0, d1, hne, hne']) rfl ⟨a, b, k + 3, rfl, by omega, by omega, by omega, ?_⟩
    exact hw3'.below hlt0 (by (repeat (refine Below.setCell ?_ (by first | exact Nat.le_refl _ | exact Nat.le_of_lt hlt2) _)); exact Below.refl _ _)
end Go.Proofs.Ytblbfpokkpkcjaa

/- The contract of the closure keep in the reference's CompressedOf. -/

namespace Go.Proofs.Ytblbfpokkpkcjaa
open Go.RowKit
set_option linter.unusedVariables false
set_option linter.unusedSimpArgs false

/-- The two boxes of the closure: block m has the slice of all that was kept, block m + 1 the pivot. -/
structure KeSt (w : World) (m : Nat) (s : List Int × Nat) : Prop where
  row : ∃ v, Blk w m 22 #[v] ∧ w.ownsRow (m + 2) 3 1 v s.1.length (s.1.map (Value.int .i64))
  piv : Blk w (m + 1) 3 #[.int .i64 (s.2 : Int)]
theorem KeSt.below {w w' : World} {m : Nat} {s : List Int × Nat} (h : KeSt w m s) (hb : Below w.heap.size w w') : KeSt w' m s := by
  obtain ⟨⟨v, h1, h2⟩, h3⟩ := h
  exact ⟨⟨v, h1.below hb h1.lt, own_keep h2 fun b _ _ hh => hb.block b (lt_of_heap hh)⟩, h3.below hb h3.lt⟩

set_option maxRecDepth 100000 in
set_option maxHeartbeats 2000000 in
theorem keep1_any (i : Nat) (m : Nat) (s : List Int × Nat) (w : World) (hs : KeSt w m s) (hlong : s.1.length ≤ 100000) :
    Calls Try.prog 114 #[.int .i64 (i : Int), .pointer (some ⟨m, 0, none⟩), .pointer (some ⟨m + 1, 0, none⟩)] w fun e w' => e = .returned (.tuple #[]) ∧ KeSt w' m (keepI i s) ∧ Below m w w' := by
  obtain ⟨⟨v, hb, hown⟩, hl⟩ := hs
  obtain ⟨out, p⟩ := s
  simp only at hb hown hl hlong
  have hlt := hl.lt
  have d0 : w.cell? ⟨m + 1, 0, none⟩ = some (.int .i64 (p : Int)) := hl.cell 0
  have e0 : w.frozen? ⟨m + 1, 0, none⟩ = false := hl.frozen 0
  have c0 : w.cell? ⟨m, 0, none⟩ = some v := hb.cell 0
  have f0 : w.frozen? ⟨m, 0, none⟩ = false := hb.frozen 0
  have HB := Lib.hid hb
  have HL := Lib.hid hl
  have HOWN := Lib.hid hown
  clear hb hl
  rcases List.eq_nil_or_concat out with rfl | ⟨l, z, rfl⟩
  · have hv : ∃ pa ca, v = .slice pa 0 ca := by
      rcases hown.2 with ⟨rfl, _⟩ | ⟨g, cap, cur, rfl, _⟩
      · exact ⟨_, _, rfl⟩
      · exact ⟨_, _, rfl⟩
    obtain ⟨pa, ca, rfl⟩ := hv
    have HR := Lib.hid (show keepI i ([], p) = ([] ++ [(i : Int)], i) by unfold keepI; simp)
    clear hown
    go_enter Try.func114, Try.ntmps114
    go_wp2_with (at_builtin; go_loud (refine wpList_append_num rfl (.tmp 17) (.tmp 19) rfl (m + 2) _ 0 [] rfl (by exact HOWN.out.alloc _) w.heap.size rfl (i : Int) (by exact Blk.new _ _ _) (by omega) (by simp; omega) ?_); intro v1 w1 hown1 hgrow1; obtain ⟨g1, cap1, rfl, hg1, hc1, hc2⟩ := own_form hown1 (by omega); have hb2 : Below (m + 2) w w1 := ((Below.refl _ w).alloc (by omega) _).trans (below_grown (HOWN.out.alloc _) (by simp; omega) hgrow1); have k0 : w1.cell? ⟨m, 0, none⟩ = some _ := (HB.out.below hb2 (by omega)).cell 0; have g0 : w1.frozen? ⟨m, 0, none⟩ = false := (HB.out.below hb2 (by omega)).frozen 0; have k1 : w1.cell? ⟨m + 1, 0, none⟩ = some (.int .i64 (p : Int)) := (HL.out.below hb2 (by omega)).cell 0; have g1' : w1.frozen? ⟨m + 1, 0, none⟩ = false := (HL.out.below hb2 (by omega)).frozen 0; clear hgrow1 c0 f0 d0 e0)
    have hbm1 := HB.out.below hb2 (by omega)
    have hba1 := HL.out.below hb2 (by omega)
    go_end0
    refine ⟨rfl, ?_, ?_⟩
    · rw [HR.out]
      refine ⟨⟨_, (hbm1.setOne _).setOther (by simp) _, ?_⟩, (hba1.setOther (by simp) _).setOne _⟩
      simp only [List.length_append, List.length_singleton]
      refine own_low (own_low hown1 fun b h1 _ => Below.heap_setCell _ _ _ _ ?_) fun b h1 _ => Below.heap_setCell _ _ _ _ ?_
      · simp; omega
      · simp; omega
    · exact Below.setCell (B := m) (Below.setCell (B := m) (hb2.mono (by omega)) (Nat.le_refl _) _) (Nat.le_succ _) _
  · rw [List.concat_eq_append] at *
    have hlen : (l ++ [z]).length = l.length + 1 := by simp
    have hcell : ∃ g cap, v = .slice (some ⟨g, 0, none⟩) (l.length + 1) cap ∧ m + 2 ≤ g ∧ l.length + 1 ≤ cap ∧ cap ≤ maxLen ∧ g < w.heap.size ∧ w.cell? ⟨g, l.length, none⟩ = some (.int .i64 z) := by
      rw [hlen] at hown
      obtain ⟨g, cap, rfl, hg, hc1, hc2⟩ := own_form hown (by omega)
      have h1 := hown.cellAt l.length (by omega)
      refine ⟨g, cap, rfl, hg, hc1, hc2, ?_, ?_⟩
      · rcases hown.2 with ⟨h, _⟩ | ⟨g', cap', cur', h, _, hh, _⟩
        · cases h
        · cases h; exact lt_of_heap hh
      · rw [h1]; simp
    obtain ⟨g, cap, rfl, hgm, hc1, hc2, hgl, hz⟩ := hcell
    unfold maxLen at hc2
    have hl0 : ¬ ((l.length : Int) + 1 = 0) := by omega
    have hnn : l.length ≤ 100000 := by rw [hlen] at hlong; omega
    clear hown hlong
    by_cases hzi : z = (i : Int)
    · have hzi' : (z != (i : Int)) = false := by simpa using hzi
      have HR := Lib.hid (show keepI i (l ++ [z], p) = (l ++ [z], i) by unfold keepI; rw [if_pos (by simp [hzi])])
      clear hzi hlen
      go_enter Try.func114, Try.ntmps114
      go_wp2_with fail
      go_end0
      refine ⟨rfl, ?_, ?_⟩
      · rw [HR.out]
        exact ⟨⟨_, HB.out.setOther (by simp) _, own_low HOWN.out fun b h1 _ => Below.heap_setCell _ _ _ _ (by simp; omega)⟩, HL.out.setOne _⟩
      · exact Below.setCell (B := m) (Below.refl _ _) (Nat.le_succ _) _
    · have hzi' : (z != (i : Int)) = true := by simpa using hzi
      have HR := Lib.hid (show keepI i (l ++ [z], p) = ((l ++ [z]) ++ [(i : Int)], i) by unfold keepI; rw [if_neg (by simp [hzi])])
      have HLEN := Lib.hid hlen
      clear hzi hlen
      have hown' : w.ownsRow (m + 2) 3 1 (.slice (some ⟨g, 0, none⟩) (l.length + 1) cap) (l.length + 1) ((l ++ [z]).map (Value.int .i64)) := by have := HOWN.out; rwa [HLEN.out] at this
      have HOW := Lib.hid hown'
      clear hown'
      go_enter Try.func114, Try.ntmps114
      go_wp2_with (at_builtin; go_loud (refine wpList_append_num rfl (.tmp 17) (.tmp 19) rfl (m + 2) _ (l.length + 1) (l ++ [z]) rfl (by exact HOW.out.alloc _) w.heap.size rfl (i : Int) (by exact Blk.new _ _ _) (by omega) (by simp; omega) ?_); intro v1 w1 hown1 hgrow1; obtain ⟨g1, cap1, rfl, hg1, hc1, hc2⟩ := own_form hown1 (by omega); have hb2 : Below (m + 2) w w1 := ((Below.refl _ w).alloc (by omega) _).trans (below_grown (HOW.out.alloc _) (by simp; omega) hgrow1); have k0 : w1.cell? ⟨m, 0, none⟩ = some _ := (HB.out.below hb2 (by omega)).cell 0; have g0 : w1.frozen? ⟨m, 0, none⟩ = false := (HB.out.below hb2 (by omega)).frozen 0; have k1 : w1.cell? ⟨m + 1, 0, none⟩ = some (.int .i64 (p : Int)) := (HL.out.below hb2 (by omega)).cell 0; have g1' : w1.frozen? ⟨m + 1, 0, none⟩ = false := (HL.out.below hb2 (by omega)).frozen 0; clear hgrow1 c0 f0 d0 e0 hz)
      have hbm1 := HB.out.below hb2 (by omega)
      have hba1 := HL.out.below hb2 (by omega)
      go_end0
      refine ⟨rfl, ?_, ?_⟩
      · rw [HR.out]
        refine ⟨⟨_, (hbm1.setOne _).setOther (by simp) _, ?_⟩, (hba1.setOther (by simp) _).setOne _⟩
        simp only [List.length_append, List.length_singleton]
        refine own_low (own_low hown1 fun b h1 _ => Below.heap_setCell _ _ _ _ ?_) fun b h1 _ => Below.heap_setCell _ _ _ _ ?_
        · simp; omega
        · simp; omega
      · exact Below.setCell (B := m) (Below.setCell (B := m) (hb2.mono (by omega)) (Nat.le_refl _) _) (Nat.le_succ _) _
end Go.Proofs.Ytblbfpokkpkcjaa

/- The contract of the reference's CompressedOf: what a round keeps. -/

namespace Go.Proofs.Ytblbfpokkpkcjaa
open Go.RowKit
set_option linter.unusedVariables false
set_option linter.unusedSimpArgs false

structure KeK (w0 : World) (m : Nat) (s : List Int × Nat) (w : World) : Prop where
  st : KeSt w m s
  bl : Below m w0 w
theorem KeK.lt {w0 w : World} {m : Nat} {s : List Int × Nat} (h : KeK w0 m s w) : m + 1 < w.heap.size := h.st.piv.lt
theorem KeK.step {w0 w w' : World} {m : Nat} {s : List Int × Nat} {B : Nat} (h : KeK w0 m s w) (hb : Below B w w') (hB : w.heap.size ≤ B) : KeK w0 m s w' :=
  ⟨h.st.below (hb.mono hB), h.bl.trans (hb.mono (by have := h.lt; omega))⟩
theorem KeK.alloc {w0 w : World} {m : Nat} {s : List Int × Nat} (h : KeK w0 m s w) (o : Obj) : KeK w0 m s (w.alloc o) := h.step ((Below.refl _ w).alloc (Nat.le_refl _) o) (Nat.le_refl _)
theorem KeK.drewN {w0 w : World} {m : Nat} {s : List Int × Nat} (h : KeK w0 m s w) (n : Nat) : KeK w0 m s (w.drewN n) := h.step (show Below w.heap.size w (w.drewN n) from ⟨rfl, rfl, rfl, Nat.le_refl _, fun _ _ => rfl⟩) (Nat.le_refl _)
theorem enter_keep1 (args : Array Value) (w : World) : (callFunc 114 args).run Try.prog w = .ok (.enter 114 args) w := by kernel_rfl
theorem keepI_long (i : Nat) (s : List Int × Nat) : (keepI i s).1.length ≤ s.1.length + 1 := by
  unfold keepI
  split
  · exact Nat.le_succ _
  · simp
end Go.Proofs.Ytblbfpokkpkcjaa
