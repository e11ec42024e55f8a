import Derived.Test.YtblbfpokkpkcjaaCom18
/- What takes the samples with some indices: plain mathematics, and the reference's KeptOf. -/

namespace Go.Proofs.Ytblbfpokkpkcjaa
open Go.RowKit
set_option linter.unusedVariables false
set_option linter.unusedSimpArgs false

def choOf (l : List Smp) (ks : List Int) : List Smp := ks.map fun k => atS l k.toNat
theorem choOf_length (l : List Smp) (ks : List Int) : (choOf l ks).length = ks.length := by simp [choOf]
/-- All indices are those of samples. -/
def Inside (n : Nat) (ks : List Int) : Prop := ∀ j (h : j < ks.length), 0 ≤ ks[j] ∧ ks[j] < (n : Int)
theorem idxFrom_inside {n : Nat} {p : Option Int} {ks : List Int} (h : idxFrom n p ks = 0) : ∀ k ∈ ks, 0 ≤ k ∧ k < (n : Int) := by
  induction ks generalizing p with
  | nil => simp
  | cons k r ih =>
    simp only [idxFrom] at h
    split at h; · omega
    split at h; · omega
    rename_i h1 h2
    intro x hx
    rcases List.mem_cons.1 hx with rfl | hx
    · have : inB x 0 ((n : Int) - 1) = true := by simpa using h1
      have := inB_true.1 this
      omega
    · exact ih h x hx
theorem idxErr_inside {n : Nat} {ks : List Int} (h : idxErr n ks = 0) : ks.length ≤ n ∧ Inside n ks := by
  unfold idxErr at h
  split at h
  · omega
  · exact ⟨by omega, fun j hj => idxFrom_inside h _ (List.getElem_mem hj)⟩
/-- Indices that rise choose samples whose moments rise. -/
theorem choOf_rise {l : List Smp} (hl : Rise none l) {p : Option Int} {q : Option Int} {ks : List Int} (h : idxFrom l.length p ks = 0) (hq : ∀ t, q = some t → ∃ k, p = some k ∧ 0 ≤ k ∧ k < (l.length : Int) ∧ t = (atS l k.toNat).t) : Rise q (choOf l ks) := by
  induction ks generalizing p q with
  | nil => trivial
  | cons k r ih =>
    simp only [idxFrom] at h
    split at h; · omega
    split at h; · omega
    rename_i h1 h2
    have hin : inB k 0 ((l.length : Int) - 1) = true := by simpa using h1
    have hk := inB_true.1 hin
    refine ⟨fun t ht => ?_, ih h fun t ht => ⟨k, rfl, hk.1, by omega, by cases ht; rfl⟩⟩
    obtain ⟨k', hk', h3, h4, rfl⟩ := hq t ht
    subst hk'
    have h5 : ¬ k ≤ k' := by simpa [notAfter] using h2
    exact rise_ltA hl _ _ (by omega) (by omega)

theorem cellsOf_zero (n i : Nat) (hi : i < n * 3) : (cellsOf (List.replicate n ⟨0, 0, 0⟩))[i]? = some (.int .i64 0) := by
  have h1 := cellsOf_get (List.replicate n ⟨0, 0, 0⟩) (i / 3) (by simp; omega) (i % 3) (by omega)
  rw [show i / 3 * 3 + i % 3 = i by omega] at h1
  rw [h1]
  have h2 : i % 3 = 0 ∨ i % 3 = 1 ∨ i % 3 = 2 := by omega
  rcases h2 with h | h | h <;> simp [h, Smp.cells]
theorem madeSmp (n : Nat) : (madeCells (Value.agg #[.int .i64 0, .int .i64 0, .int .i64 0]).cells (n * 3)).toList = cellsOf (List.replicate n ⟨0, 0, 0⟩) := by
  apply List.ext_getElem?
  intro i
  rcases Nat.lt_or_ge i (n * 3) with hi | hi
  · rw [cellsOf_zero n i hi]
    have h2 : i % 3 = 0 ∨ i % 3 = 1 ∨ i % 3 = 2 := by omega
    rcases h2 with h | h | h <;> simp [madeCells, Value.cells, hi, h]
  · rw [List.getElem?_eq_none (by simp [madeCells]; omega), List.getElem?_eq_none (by rw [cellsOf_length]; simp; omega)]
theorem choOf_get (l : List Smp) (ks : List Int) (j : Nat) (h : j < ks.length) : (choOf l ks)[j]? = some (atS l (ks[j]).toNat) := by simp [choOf, h]
theorem choOf_take (l : List Smp) (ks : List Int) (j : Nat) (h : j < ks.length) : (choOf l ks).take (j + 1) = (choOf l ks).take j ++ [atS l (ks[j]).toNat] := by
  rw [List.take_add_one, choOf_get l ks j h]; rfl

theorem own_putN {w : World} {base g cap n : Nat} {e : TypeId} {l : List Smp} (h : w.ownsRow base e 3 (.slice (some ⟨g, 0, none⟩) n cap) n (cellsOf l)) (hl : l.length = n) (i : Nat) (hi : i < n) (y : Smp) :
    (((w.setCell ⟨g, i * 3, none⟩ (.int .i64 y.t)).setCell ⟨g, i * 3 + 1, none⟩ (.int .i64 y.v)).setCell ⟨g, i * 3 + 2, none⟩ (.int .i64 y.q)).ownsRow base e 3 (.slice (some ⟨g, 0, none⟩) n cap) n (cellsOf (l.set i y)) := by
  subst hl
  exact own_put h i hi y
/-- What chosen has after j rounds: the first j samples, then zeros. -/
def choTo (l : List Smp) (ks : List Int) (j : Nat) : List Smp := (choOf l ks).take j ++ List.replicate (ks.length - j) ⟨0, 0, 0⟩
theorem choTo_length (l : List Smp) (ks : List Int) (j : Nat) (h : j ≤ ks.length) : (choTo l ks j).length = ks.length := by
  simp [choTo, choOf_length]; omega
theorem choTo_step (l : List Smp) (ks : List Int) (j : Nat) (h : j < ks.length) : (choTo l ks j).set j (atS l (ks[j]).toNat) = choTo l ks (j + 1) := by
  unfold choTo
  rw [choOf_take l ks j h, List.set_append_right _ _ (by simp [choOf_length]; omega)]
  have h1 : j - ((choOf l ks).take j).length = 0 := by simp [choOf_length]; omega
  rw [h1, show ks.length - j = (ks.length - (j + 1)) + 1 by omega, List.replicate_succ]
  simp
theorem choTo_zero (l : List Smp) (ks : List Int) : choTo l ks 0 = List.replicate ks.length ⟨0, 0, 0⟩ := by simp [choTo]
theorem choTo_end (l : List Smp) (ks : List Int) : choTo l ks ks.length = choOf l ks := by
  simp [choTo]
  rw [List.take_of_length_le (by simp [choOf_length])]

set_option maxRecDepth 100000 in
set_option maxHeartbeats 2000000 in
theorem keptOf_any (v vk : Value) (l : List Smp) (ks : List Int) (w : World) (hR : RdS w 71 v l) (hK : RdI w vk ks) (hks : ks.length ≤ 100000) (hin : Inside l.length ks) :
    Calls Try.prog 45 #[v, vk] w fun e w' => ∃ vr, e = .returned vr ∧ w'.ownsRow w.heap.size 71 3 vr ks.length (cellsOf (choOf l ks)) ∧ Below w.heap.size w w' := by
  obtain ⟨pa, ca, rfl⟩ := hR.lenv
  obtain ⟨pk, ck, rfl⟩ := hK.lenv
  have HR := Lib.hid hR
  have HK := Lib.hid hK
  have HIN := Lib.hid hin
  clear hR hK hin
  go_enter Try.func45, Try.ntmps45
  go_wp2_with fail
  go_loopw [5, 10] (fun o i wr => ∃ j : Nat, j ≤ ks.length ∧ i = .int .i64 (j : Int) ∧ wr.ownsRow w.heap.size 71 3 o j (cellsOf ((choOf l ks).take j)) ∧ Below w.heap.size w wr) (fun _ i _ => ks.length - (intOf i).toNat)
  case atStart => exact ⟨0, by omega, rfl, World.ownsRow_nil _ _ _ _, Below.refl _ _⟩
  case round =>
    obtain ⟨j, hj, rfl, ho, hbr⟩ := hrel
    by_cases hlt : j < ks.length
    · have hKr : RdI wr _ ks := HK.out.below hbr (Nat.le_refl _)
      obtain ⟨bk, ok, c, hv, hc1, hc2, hbklt, hkc⟩ := RdI.cells hKr (by omega)
      cases hv
      have k0 := hkc j hlt
      have hij := HIN.out j hlt
      have hkn : ∃ kn : Nat, ks[j] = (kn : Int) ∧ kn < l.length := ⟨ks[j].toNat, by omega, by omega⟩
      obtain ⟨kn, hkn, hknl⟩ := hkn
      have hst := choOf_take l ks j hlt
      rw [hkn] at k0
      rw [hkn, Int.toNat_natCast] at hst
      have hRr : RdS wr 71 _ l := HR.out.below hbr (Nat.le_refl _)
      obtain ⟨b, off, c', hv, hc3, hc4, hblt, hcell⟩ := RdS.at_ hRr (by omega)
      cases hv
      obtain ⟨z0, z1, z2⟩ := hcell kn hknl
      generalize atS l kn = x at *
      have hsz := hbr.size
      have HST := Lib.hid hst
      have HBR := Lib.hid hbr
      have HO := Lib.hid ho
      unfold maxLen at hc2 hc4
      have i1 : (0 : Int) ≤ (kn : Int) := by omega
      have i2 : (kn : Int) < (l.length : Int) := by omega
      clear hst hkc hij hkn hRr hKr hcell ho hbr
      go_wp2_with (at_builtin; go_loud (refine wpList_append_smp rfl (.tmp 14) (.tmp 19) rfl w.heap.size u5 j ((choOf l ks).take j) rfl (by exact HO.out.alloc _) wr.heap.size rfl x (by exact Blk.new _ _ _) (by omega) (by simp; omega) ?_); intro v1 wc hown1 hgrow1)
      have hbc : Below w.heap.size w wc := (HBR.out.alloc hsz _).trans (below_grown (HO.out.alloc _) (by simp; omega) hgrow1)
      clear hgrow1
      go_roundw
      case rel => exact ⟨j + 1, by omega, by go_num, by rw [HST.out]; exact hown1, hbc⟩
      case measure => simp [intOf]; omega
    · obtain rfl : j = ks.length := by omega
      go_wp2_with fail
      go_ret
      rw [List.take_of_length_le (by rw [choOf_length]; omega)] at ho
      exact ⟨_, rfl, ho, hbr⟩

end Go.Proofs.Ytblbfpokkpkcjaa

/- The contracts of what takes the samples with some indices: chosen, Keep (package compress). -/

namespace Go.Proofs.Ytblbfpokkpkcjaa
open Go.RowKit
set_option linter.unusedVariables false
set_option linter.unusedSimpArgs false


set_option maxRecDepth 100000 in
set_option maxHeartbeats 2000000 in
theorem chosen_any (v vk : Value) (l : List Smp) (ks : List Int) (w : World) (hR : RdS w 71 v l) (hK : RdI w vk ks) (hks : ks.length ≤ 100000) (hin : Inside l.length ks) :
    Calls Try.prog 119 #[v, vk] w fun e w' => ∃ vr, e = .returned vr ∧ w'.ownsRow w.heap.size 71 3 vr ks.length (cellsOf (choOf l ks)) ∧ Below w.heap.size w w' := by
  obtain ⟨pa, ca, rfl⟩ := hR.lenv
  obtain ⟨pk, ck, rfl⟩ := hK.lenv
  have HR := Lib.hid hR
  have HK := Lib.hid hK
  have HIN := Lib.hid hin
  obtain ⟨i0, hi0, hz0, hz1, hz2⟩ := info_parts info_smp
  clear hR hK hin
  go_enter Try.func119, Try.ntmps119
  go_wp2_with (at_make; go_loud (refine wpList_make_full w rfl (.tmp 9) (.tmp 9) 32 rfl w.heap.size 71 i0 _ 3 Try.underlying32 hi0 hz0 hz1 .i64 .i64 _ _ ks.length rfl rfl rfl rfl (by rw [hz2]; omega) (by simp only [maxLen]; omega) (Nat.le_refl _) ?_); intro w1 hown hgr)
  have hb1 : Below w.heap.size w w1 := (Below.refl w.heap.size w).grown hgr (Nat.le_refl _) (fun k hk => by simp [Value.ownBlock] at hk)
  rw [madeSmp] at hown
  rw [← choTo_zero l ks] at hown
  have HB1 := Lib.hid hb1
  have hsz1 := hb1.size
  clear hb1 hgr
  go_loopw [13] (fun i wr => ∃ j : Nat, j ≤ ks.length ∧ i = .int .i64 (j : Int) ∧ wr.ownsRow w.heap.size 71 3 (.slice (some ⟨w.heap.size, 0, none⟩) ks.length ks.length) ks.length (cellsOf (choTo l ks j)) ∧ Below w.heap.size w wr) (fun i _ => ks.length - (intOf i).toNat)
  case atStart => exact ⟨0, by omega, rfl, hown, HB1.out⟩
  case round =>
    obtain ⟨j, hj, rfl, ho, hbr⟩ := hrel
    by_cases hlt : j < ks.length
    · have hKr : RdI wr _ ks := HK.out.below hbr (Nat.le_refl _)
      obtain ⟨bk, ok, c, hv, hc1, hc2, hbklt, hkc⟩ := RdI.cells hKr (by omega)
      cases hv
      have k0 := hkc j hlt
      have hij := HIN.out j hlt
      have hkn : ∃ kn : Nat, ks[j] = (kn : Int) ∧ kn < l.length := ⟨ks[j].toNat, by omega, by omega⟩
      obtain ⟨kn, hkn, hknl⟩ := hkn
      have hst := choTo_step l ks j hlt
      rw [hkn] at k0
      rw [hkn, Int.toNat_natCast] at hst
      have hRr : RdS wr 71 _ l := HR.out.below hbr (Nat.le_refl _)
      obtain ⟨b, off, c', hv, hc3, hc4, hblt, hcell⟩ := RdS.at_ hRr (by omega)
      cases hv
      obtain ⟨z0, z1, z2⟩ := hcell kn hknl
      generalize atS l kn = x at *
      have hl := choTo_length l ks j hj
      obtain ⟨d0, d1, d2⟩ := own_cells ho hl j hlt
      have f0 := ho.frozenAt (j * 3)
      have f1 := ho.frozenAt (j * 3 + 1)
      have f2 := ho.frozenAt (j * 3 + 2)
      have hput := own_putN ho hl j hlt x
      rw [hst] at hput
      have HPUT := Lib.hid hput
      have HBR := Lib.hid hbr
      unfold maxLen at hc2 hc4
      have i1 : (0 : Int) ≤ (kn : Int) := by omega
      have i2 : (kn : Int) < (l.length : Int) := by omega
      generalize (choTo l ks j)[j] = y at *
      clear hst hput hkc hij hkn hRr hKr hcell ho hbr hown
      go_wp2_with fail
      go_roundw
      case rel => exact ⟨j + 1, by omega, by go_num, HPUT.out, Below.setCell (Below.setCell (Below.setCell HBR.out (Nat.le_refl _) _) (Nat.le_refl _) _) (Nat.le_refl _) _⟩
      case measure => simp [intOf]; omega
    · obtain rfl : j = ks.length := by omega
      go_wp2_with fail
      go_ret
      rw [choTo_end] at ho
      exact ⟨_, rfl, ho, hbr⟩

set_option maxRecDepth 100000 in
set_option maxHeartbeats 2000000 in
theorem keep_any (v vk : Value) (l : List Smp) (ks : List Int) (w : World) (hR : RdS w 71 v l) (hK : RdI w vk ks) (hks : ks.length ≤ 100000) :
    Calls Try.prog 36 #[v, vk] w fun e w' => ∃ vr, e = .returned (.tuple #[vr, .int .i64 (keptErr l ks)]) ∧ (keptErr l ks = 0 → RdS w' 71 vr (choOf l ks)) ∧ (keptErr l ks ≠ 0 → vr = .slice none 0 0) ∧ Below w.heap.size w w' := by
  have hck := checkKept_any v vk l ks w hR hK hks
  have hin : keptErr l ks = 0 → Inside l.length ks := fun h => by
    unfold keptErr at h
    split at h
    · rename_i h1; exact absurd h h1
    · exact (idxErr_inside h).2
  generalize keptErr l ks = E at *
  have HCK := Lib.hid hck
  have HR := Lib.hid hR
  have HK := Lib.hid hK
  have HIN := Lib.hid hin
  clear hck hR hK hin
  go_enter Try.func36, Try.ntmps36
  go_wp2_with fail
  refine HCK.out.mono ?_
  rintro e w1 ⟨rfl, hb1⟩
  by_cases hE : E = 0
  · have hE' : (E != 0) = false := by simpa using hE
    have HE := Lib.hid hE
    clear hE
    go_wp2_with fail
    refine (chosen_any v vk l ks w1 (HR.out.below hb1 (Nat.le_refl _)) (HK.out.below hb1 (Nat.le_refl _)) hks (HIN.out HE.out)).mono ?_
    rintro e w2 ⟨vr, rfl, ho, hb2⟩
    go_wp2_with fail
    go_ret2
    refine ⟨vr, by rw [HE.out]; rfl, fun _ => ?_, fun h => absurd HE.out h, hb1.trans (hb2.mono hb1.size)⟩
    have := Rd.of_own ho
    unfold RdS
    rw [choOf_length]
    exact this
  · have hE' : (E != 0) = true := by simpa using hE
    have HE := Lib.hid hE
    clear hE
    go_wp2_with fail
    go_ret2
    exact ⟨_, rfl, fun h => absurd h HE.out, fun _ => rfl, hb1⟩
end Go.Proofs.Ytblbfpokkpkcjaa
