/- The contracts of what takes the samples with some indices: chosen, Keep (package compress). -/
import Derived.Test.YtgbnjbbjgkfefaaChob
namespace Go.Proofs.Ytgbnjbbjgkfefaa
open Go.RowKit
set_option linter.unusedVariables false
set_option linter.unusedSimpArgs false


set_option maxRecDepth 100000 in
set_option maxHeartbeats 2000000 in
theorem chosen_any (v vk : Value) (l : List Smp) (ks : List Int) (w : World) (hR : RdS w 71 v l) (hK : RdI w vk ks) (hks : ks.length ≤ 100000) (hin : Inside l.length ks) :
    Calls Try.prog 101 #[v, vk] w fun e w' => ∃ vr, e = .returned vr ∧ w'.ownsRow w.heap.size 71 3 vr ks.length (cellsOf (choOf l ks)) ∧ Below w.heap.size w w' := by
  obtain ⟨pa, ca, rfl⟩ := hR.lenv
  obtain ⟨pk, ck, rfl⟩ := hK.lenv
  have HR := Lib.hid hR
  have HK := Lib.hid hK
  have HIN := Lib.hid hin
  obtain ⟨i0, hi0, hz0, hz1, hz2⟩ := info_parts info_smp
  clear hR hK hin
  go_enter Try.func101, Try.ntmps101
  go_wp2_with (at_make; go_loud (refine wpList_make_full w rfl (.tmp 9) (.tmp 9) 32 rfl w.heap.size 71 i0 _ 3 Try.underlying32 hi0 hz0 hz1 .i64 .i64 _ _ ks.length rfl rfl rfl rfl (by rw [hz2]; omega) (by simp only [maxLen]; omega) (Nat.le_refl _) ?_); intro w1 hown hgr)
  have hb1 : Below w.heap.size w w1 := (Below.refl w.heap.size w).grown hgr (Nat.le_refl _) (fun k hk => by simp [Value.ownBlock] at hk)
  rw [madeSmp] at hown
  rw [← choTo_zero l ks] at hown
  have HB1 := Lib.hid hb1
  have hsz1 := hb1.size
  clear hb1 hgr
  go_loopw [13] (fun i wr => ∃ j : Nat, j ≤ ks.length ∧ i = .int .i64 (j : Int) ∧ wr.ownsRow w.heap.size 71 3 (.slice (some ⟨w.heap.size, 0, none⟩) ks.length ks.length) ks.length (cellsOf (choTo l ks j)) ∧ Below w.heap.size w wr) (fun i _ => ks.length - (intOf i).toNat)
  case atStart => exact ⟨0, by omega, rfl, hown, HB1.out⟩
  case round =>
    obtain ⟨j, hj, rfl, ho, hbr⟩ := hrel
    by_cases hlt : j < ks.length
    · have hKr : RdI wr _ ks := HK.out.below hbr (Nat.le_refl _)
      obtain ⟨bk, ok, c, hv, hc1, hc2, hbklt, hkc⟩ := RdI.cells hKr (by omega)
      cases hv
      have k0 := hkc j hlt
      have hij := HIN.out j hlt
      have hkn : ∃ kn : Nat, ks[j] = (kn : Int) ∧ kn < l.length := ⟨ks[j].toNat, by omega, by omega⟩
      obtain ⟨kn, hkn, hknl⟩ := hkn
      have hst := choTo_step l ks j hlt
      rw [hkn] at k0
      rw [hkn, Int.toNat_natCast] at hst
      have hRr : RdS wr 71 _ l := HR.out.below hbr (Nat.le_refl _)
      obtain ⟨b, off, c', hv, hc3, hc4, hblt, hcell⟩ := RdS.at_ hRr (by omega)
      cases hv
      obtain ⟨z0, z1, z2⟩ := hcell kn hknl
      generalize atS l kn = x at *
      have hl := choTo_length l ks j hj
      obtain ⟨d0, d1, d2⟩ := own_cells ho hl j hlt
      have f0 := ho.frozenAt (j * 3)
      have f1 := ho.frozenAt (j * 3 + 1)
      have f2 := ho.frozenAt (j * 3 + 2)
      have hput := own_putN ho hl j hlt x
      rw [hst] at hput
      have HPUT := Lib.hid hput
      have HBR := Lib.hid hbr
      unfold maxLen at hc2 hc4
      have i1 : (0 : Int) ≤ (kn : Int) := by omega
      have i2 : (kn : Int) < (l.length : Int) := by omega
      generalize (choTo l ks j)[j] = y at *
      clear hst hput hkc hij hkn hRr hKr hcell ho hbr hown
      go_wp2_with fail
      go_roundw
      case rel => exact ⟨j + 1, by omega, by go_num, HPUT.out, Below.setCell (Below.setCell (Below.setCell HBR.out (Nat.le_refl _) _) (Nat.le_refl _) _) (Nat.le_refl _) _⟩
      case measure => simp [intOf]; omega
    · obtain rfl : j = ks.length := by omega
      go_wp2_with fail
      go_ret
      rw [choTo_end] at ho
      exact ⟨_, rfl, ho, hbr⟩

set_option maxRecDepth 100000 in
set_option maxHeartbeats 2000000 in
theorem keep_any (v vk : Value) (l : List Smp) (ks : List Int) (w : World) (hR : RdS w 71 v l) (hK : RdI w vk ks) (hks : ks.length ≤ 100000) :
    Calls Try.prog 33 #[v, vk] w fun e w' => ∃ vr, e = .returned (.tuple #[vr, .int .i64 (keptErr l ks)]) ∧ (keptErr l ks = 0 → RdS w' 71 vr (choOf l ks)) ∧ (keptErr l ks ≠ 0 → vr = .slice none 0 0) ∧ Below w.heap.size w w' := by
  have hck := checkKept_any v vk l ks w hR hK hks
  have hin : keptErr l ks = 0 → Inside l.length ks := fun h => by
    unfold keptErr at h
    split at h
    · rename_i h1; exact absurd h h1
    · exact (idxErr_inside h).2
  generalize keptErr l ks = E at *
  have HCK := Lib.hid hck
  have HR := Lib.hid hR
  have HK := Lib.hid hK
  have HIN := Lib.hid hin
  clear hck hR hK hin
  go_enter Try.func33, Try.ntmps33
  go_wp2_with fail
  refine HCK.out.mono ?_
  rintro e w1 ⟨rfl, hb1⟩
  by_cases hE : E = 0
  · have hE' : (E != 0) = false := by simpa using hE
    have HE := Lib.hid hE
    clear hE
    go_wp2_with fail
    refine (chosen_any v vk l ks w1 (HR.out.below hb1 (Nat.le_refl _)) (HK.out.below hb1 (Nat.le_refl _)) hks (HIN.out HE.out)).mono ?_
    rintro e w2 ⟨vr, rfl, ho, hb2⟩
    go_wp2_with fail
    go_ret2
    refine ⟨vr, by rw [HE.out]; rfl, fun _ => ?_, fun h => absurd HE.out h, hb1.trans (hb2.mono hb1.size)⟩
    have := Rd.of_own ho
    unfold RdS
    rw [choOf_length]
    exact this
  · have hE' : (E != 0) = true := by simpa using hE
    have HE := Lib.hid hE
    clear hE
    go_wp2_with fail
    go_ret2
    exact ⟨_, rfl, fun h => absurd h HE.out, fun _ => rfl, hb1⟩
end Go.Proofs.Ytgbnjbbjgkfefaa
