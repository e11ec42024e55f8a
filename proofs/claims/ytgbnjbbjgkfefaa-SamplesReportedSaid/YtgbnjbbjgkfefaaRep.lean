/- The contract of Report (package compress): exception reporting. -/
import Derived.Test.YtgbnjbbjgkfefaaCont
import Derived.Test.YtgbnjbbjgkfefaaDist
import Derived.Test.YtgbnjbbjgkfefaaRise
import Derived.Deep.DeepCutAuto
import Derived.Laws.EntriesVeiled
namespace Go.Proofs.Ytgbnjbbjgkfefaa
open Go.RowKit
set_option linter.unusedVariables false
set_option linter.unusedSimpArgs false

/-- Is y an exception after x: by quality, by more than d, or by a gap of m? -/
def excB (d m : Int) (x y : Smp) : Bool := decide (y.q ≠ x.q ∨ d < dist y.v x.v ∨ m ≤ y.t - x.t)
/-- What is reported: the last index, and all of them. -/
def repI (i : Int) (s : Int × List Int) : Int × List Int := if s.1 < i then (i, s.2 ++ [i]) else s
def repStep (d m : Int) (l : List Smp) (j : Nat) (s : Int × List Int) : Int × List Int :=
  if j = 0 ∨ excB d m (atS l s.1.toNat) (atS l j) = true then repI (j : Int) (repI ((j : Int) - 1) s) else s
def repTo (d m : Int) (l : List Smp) : Nat → Int × List Int
  | 0 => (-1, [])
  | j + 1 => repStep d m l j (repTo d m l j)
def reported (d m : Int) (l : List Smp) : List Int := (repI ((l.length : Int) - 1) (repTo d m l l.length)).2

theorem repI_last (i : Int) (s : Int × List Int) (h : s.1 ≤ i) : (repI i s).1 = i := by
  unfold repI
  split
  · rfl
  · omega
theorem repStep_last (d m : Int) (l : List Smp) (j : Nat) (s : Int × List Int) (h : s.1 < j) : s.1 ≤ (repStep d m l j s).1 ∧ (repStep d m l j s).1 ≤ j := by
  have h1 : (repI ((j : Int) - 1) s).1 = (j : Int) - 1 := repI_last _ _ (by omega)
  have h2 := repI_last (j : Int) (repI ((j : Int) - 1) s) (by omega)
  unfold repStep
  split
  · omega
  · omega
theorem repTo_last (d m : Int) (l : List Smp) (j : Nat) : -1 ≤ (repTo d m l j).1 ∧ (repTo d m l j).1 < j ∧ (0 < j → 0 ≤ (repTo d m l j).1) := by
  induction j with
  | zero => simp [repTo]
  | succ j ih =>
    have h := repStep_last d m l j (repTo d m l j) ih.2.1
    refine ⟨by simp only [repTo]; omega, by simp only [repTo]; omega, fun _ => ?_⟩
    rcases Nat.eq_zero_or_pos j with h0 | h0
    · subst h0
      simp [repTo, repStep, repI]
    · have := ih.2.2 h0
      simp only [repTo]
      omega
theorem repI_long (i : Int) (s : Int × List Int) : (repI i s).2.length ≤ s.2.length + 1 := by unfold repI; split <;> simp
theorem repTo_long (d m : Int) (l : List Smp) (j : Nat) : (repTo d m l j).2.length ≤ 2 * j := by
  induction j with
  | zero => simp [repTo]
  | succ j ih =>
    have h1 := repI_long ((j : Int) - 1) (repTo d m l j)
    have h2 := repI_long (j : Int) (repI ((j : Int) - 1) (repTo d m l j))
    simp only [repTo, repStep]
    split <;> omega

set_option maxRecDepth 100000 in
set_option maxHeartbeats 2000000 in
theorem isException_any (d m : Int) (x y : Smp) (w : World) (hx : -4611686018427387904 ≤ x.t ∧ x.t ≤ 4611686018427387903) (hy : -4611686018427387904 ≤ y.t ∧ y.t ≤ 4611686018427387903)
    (vx : -4000000000000000000 ≤ x.v ∧ x.v ≤ 4000000000000000000) (vy : -4000000000000000000 ≤ y.v ∧ y.v ≤ 4000000000000000000) :
    Calls Try.prog 83 #[.agg #[.int .i64 d, .int .i64 m], x.agg, y.agg] w fun e w' => e = .returned (.bool (excB d m x y)) ∧ Below w.heap.size w w' := by
  obtain ⟨xt, xv, xq⟩ := x
  obtain ⟨yt, yv, yq⟩ := y
  unfold Smp.agg
  have hfin : excB d m ⟨xt, xv, xq⟩ ⟨yt, yv, yq⟩ = decide (yq ≠ xq ∨ d < dist yv xv ∨ m ≤ yt - xt) := rfl
  generalize excB d m ⟨xt, xv, xq⟩ ⟨yt, yv, yq⟩ = E at *
  have HF := Lib.hid hfin
  clear hfin
  simp only at hx hy vx vy
  have hD := fun w => distance_any yv xv w vy vx
  have hdr : 0 ≤ dist yv xv ∧ dist yv xv ≤ 8000000000000000000 := by unfold dist; omega
  generalize dist yv xv = D at *
  have hwr : IntKind.i64.wrap (yt - xt) = yt - xt := IntWalk.i64_in _ (by omega)
  by_cases hq : yq = xq
  · have hq' : (yq != xq) = false := by simpa using hq
    by_cases hd : d < D
    · have hd' : decide (d < D) = true := by simpa using hd
      have HE := Lib.hid (show E = true by rw [HF.out]; simp [hd])
      clear hq hd
      go_enter Try.func83, Try.ntmps83
      go_wp2_with fail
      go_quiet ((go_at_call 131; exact quiet_eq (hD _)))
      go_wp2_with fail
      go_ret
      exact ⟨ret_bool HE.out.symm, bdrewN ((((Below.refl _ w).alloc (Nat.le_refl _) _).alloc (by simp) _).alloc (by simp; omega) _) _⟩
    · have hd' : decide (d < D) = false := by simpa using hd
      have HE := Lib.hid (show E = decide (m ≤ yt - xt) by rw [HF.out]; simp [hq, hd])
      clear hq hd
      go_enter Try.func83, Try.ntmps83
      go_wp2_with fail
      go_quiet ((go_at_call 131; exact quiet_eq (hD _)))
      go_wp2_with fail
      go_ret
      exact ⟨ret_bool (by rw [HE.out]), bdrewN ((((Below.refl _ w).alloc (Nat.le_refl _) _).alloc (by simp) _).alloc (by simp; omega) _) _⟩
  · have hq' : (yq != xq) = true := by simpa using hq
    have HE := Lib.hid (show E = true by rw [HF.out]; simp [hq])
    clear hq
    go_enter Try.func83, Try.ntmps83
    go_wp2_with fail
    go_quiet (fail)
    go_wp2_with fail
    go_ret
    exact ⟨ret_bool HE.out.symm, bdrewN ((((Below.refl _ w).alloc (Nat.le_refl _) _).alloc (by simp) _).alloc (by simp; omega) _) _⟩

/-- The two boxes of the closure: block m has the slice of all that was reported, block m + 1 what was reported last. -/
structure RepSt (w : World) (m : Nat) (s : Int × List Int) : Prop where
  row : ∃ v, Blk w m 22 #[v] ∧ w.ownsRow (m + 2) 3 1 v s.2.length (s.2.map (Value.int .i64))
  last : Blk w (m + 1) 3 #[.int .i64 s.1]

theorem RepSt.below {w w' : World} {m : Nat} {s : Int × List Int} (h : RepSt w m s) (hb : Below w.heap.size w w') : RepSt w' m s := by
  obtain ⟨⟨v, h1, h2⟩, h3⟩ := h
  exact ⟨⟨v, h1.below hb h1.lt, own_keep h2 fun b _ _ hh => hb.block b (lt_of_heap hh)⟩, h3.below hb h3.lt⟩
theorem RepSt.alloc {w : World} {m : Nat} {s : Int × List Int} (h : RepSt w m s) (o : Obj) : RepSt (w.alloc o) m s := h.below ((Below.refl _ _).alloc (Nat.le_refl _) o)

set_option maxRecDepth 100000 in
set_option maxHeartbeats 2000000 in
theorem report1_any (i : Int) (m : Nat) (s : Int × List Int) (w : World) (hs : RepSt w m s) (hlong : s.2.length ≤ 100000) :
    Calls Try.prog 82 #[.int .i64 i, .pointer (some ⟨m + 1, 0, none⟩), .pointer (some ⟨m, 0, none⟩)] w fun e w' => e = .returned (.tuple #[]) ∧ RepSt w' m (repI i s) ∧ Below m w w' := by
  obtain ⟨⟨v, hb, hown⟩, hl⟩ := hs
  obtain ⟨z, out⟩ := s
  simp only at hb hown hl hlong
  have hlt := hl.lt
  have d0 : w.cell? ⟨m + 1, 0, none⟩ = some (.int .i64 z) := hl.cell 0
  have e0 : w.frozen? ⟨m + 1, 0, none⟩ = false := hl.frozen 0
  have c0 : w.cell? ⟨m, 0, none⟩ = some v := hb.cell 0
  have f0 : w.frozen? ⟨m, 0, none⟩ = false := hb.frozen 0
  have HB := Lib.hid hb
  have HL := Lib.hid hl
  clear hb hl
  by_cases hz : z < i
  · have hz' : decide (z < i) = true := by simpa using hz
    have HR := Lib.hid (show repI i (z, out) = (i, out ++ [i]) by unfold repI; rw [if_pos hz])
    clear hz
    go_enter Try.func82, Try.ntmps82
    go_wp2_with (at_builtin; refine wpList_append_num rfl (.tmp 7) (.tmp 9) rfl (m + 2) v out.length out rfl (by exact hown.alloc _) w.heap.size rfl i (by exact Blk.new _ _ _) (by omega) (by simp; omega) ?_; intro v1 w1 hown1 hgrow1; obtain ⟨g1, cap1, rfl, hg1, hc1, hc2⟩ := own_form hown1 (by omega); have hb2 : Below (m + 2) w w1 := ((Below.refl _ w).alloc (by omega) _).trans (below_grown (hown.alloc _) (by simp; omega) hgrow1); have k0 : w1.cell? ⟨m, 0, none⟩ = some v := (HB.out.below hb2 (by omega)).cell 0; have g0 : w1.frozen? ⟨m, 0, none⟩ = false := (HB.out.below hb2 (by omega)).frozen 0; have k1 : w1.cell? ⟨m + 1, 0, none⟩ = some (.int .i64 z) := (HL.out.below hb2 (by omega)).cell 0; have g1' : w1.frozen? ⟨m + 1, 0, none⟩ = false := (HL.out.below hb2 (by omega)).frozen 0; clear hgrow1 c0 f0 d0 e0)
    have hbm1 := HB.out.below hb2 (by omega)
    have hba1 := HL.out.below hb2 (by omega)
    go_end0
    refine ⟨rfl, ?_, ?_⟩
    · rw [HR.out]
      refine ⟨⟨_, (hbm1.setOne _).setOther (by simp) _, ?_⟩, (hba1.setOther (by simp) _).setOne _⟩
      simp only [List.length_append, List.length_singleton]
      refine own_low (own_low hown1 fun b h1 _ => Below.heap_setCell _ _ _ _ ?_) fun b h1 _ => Below.heap_setCell _ _ _ _ ?_
      · simp; omega
      · simp; omega
    · exact Below.setCell (B := m) (Below.setCell (B := m) (hb2.mono (by omega)) (Nat.le_refl _) _) (Nat.le_succ _) _
  · have hz' : decide (z < i) = false := by simpa using hz
    have HR := Lib.hid (show repI i (z, out) = (z, out) by unfold repI; rw [if_neg hz])
    clear hz
    go_enter Try.func82, Try.ntmps82
    go_wp2_with fail
    go_end0
    exact ⟨rfl, by rw [HR.out]; exact ⟨⟨v, HB.out, hown⟩, HL.out⟩, Below.refl _ _⟩
end Go.Proofs.Ytgbnjbbjgkfefaa
