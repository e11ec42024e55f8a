/- The contract of Samples (package logmake). -/
import Derived.Test.YtjkncmhmmafmjaaMake
namespace Go.Proofs.Ytjkncmhmmafmjaa
open Go.RowKit
set_option linter.unusedVariables false
set_option linter.unusedSimpArgs false

theorem rightSamples_length (L : List Int) (k : Nat) (most : Int) : (rightSamples L k most).length = rightN L k most := rightTo_length _ _ _ _
/-- Where the stream stands behind RightSamples. -/
def rightK (L : List Int) (k : Nat) (most : Int) : Nat := k + 2 + 3 * rightN L k most
def samples (L : List Int) (k : Nat) (most : Int) : List Smp :=
  if rightN L k most = 0 then []
  else if nxt L (rightK L k most) 10 = 0 then (rightSamples L k most).set (nxt L (rightK L k most + 1) (rightN L k most)).toNat (oneSample L (rightK L k most + 2))
  else rightSamples L k most
def samplesK (L : List Int) (k : Nat) (most : Int) : Nat :=
  if rightN L k most = 0 then rightK L k most
  else if nxt L (rightK L k most) 10 = 0 then rightK L k most + 5 else rightK L k most + 1
theorem samples_length (L : List Int) (k : Nat) (most : Int) : (samples L k most).length = rightN L k most := by
  have := rightSamples_length L k most
  unfold samples
  split
  · simp; omega
  · split <;> simp [this]
theorem rightN_le (L : List Int) (k : Nat) (most : Int) (hm : 0 ≤ most) : rightN L k most ≤ most.toNat := by
  have := nxt_range L (k + 1) (most + 1) (by omega)
  unfold rightN
  omega
theorem samplesK_le (L : List Int) (k : Nat) (most : Int) (hm : 0 ≤ most) : samplesK L k most ≤ k + 7 + 3 * most.toNat := by
  have := rightN_le L k most hm
  unfold samplesK rightK
  split <;> (try split) <;> omega

set_option maxRecDepth 100000 in
set_option maxHeartbeats 1000000 in
theorem samples_went (w : World) (g : Nat) (L : List Int) (A : Option Addr) (cap k : Nat) (most : Int) (hS : Strm w g L A cap k) (hk : k ≤ 700000000) (hm : 0 ≤ most ∧ most ≤ 1000) :
    Calls Try.prog 7 #[.pointer (some ⟨g, 0, none⟩), .int .i64 most] w fun e w' =>
      ∃ v, e = .returned v ∧ w'.ownsRow w.heap.size 27 3 v (samples L k most).length (cellsOf (samples L k most)) ∧ Went w g L A cap (samplesK L k most) w' := by
  have hlt0 := hS.lt
  have hlen := rightSamples_length L k most
  have hlen' := samples_length L k most
  have hNle := rightN_le L k most hm.1
  have hfS : samples L k most = if rightN L k most = 0 then []
    else if nxt L (rightK L k most) 10 = 0 then (rightSamples L k most).set (nxt L (rightK L k most + 1) (rightN L k most)).toNat (oneSample L (rightK L k most + 2))
    else rightSamples L k most := rfl
  have hfK : samplesK L k most = if rightN L k most = 0 then rightK L k most
    else if nxt L (rightK L k most) 10 = 0 then rightK L k most + 5 else rightK L k most + 1 := rfl
  have hRW := right_went w g L A cap k most hS (by omega) hm
  have hkr : rightK L k most ≤ 800000000 := by unfold rightK; omega
  change Calls _ _ _ _ (fun e w' => ∃ v, e = .returned v ∧ w'.ownsRow w.heap.size 27 3 v (rightN L k most) (cellsOf (rightSamples L k most)) ∧ Went w g L A cap (rightK L k most) w') at hRW
  generalize samples L k most = S at *
  generalize samplesK L k most = K at *
  generalize rightSamples L k most = R at *
  generalize rightK L k most = k1 at *
  generalize rightN L k most = N at *
  have HRW := Lib.hid hRW
  have HL := Lib.hid hlen
  have HL' := Lib.hid hlen'
  have HS := Lib.hid hfS
  have HK := Lib.hid hfK
  clear hlen hlen' hfS hfK hRW
  go_enter Try.func7, Try.ntmps7
  go_wp2_with fail
  refine HRW.out.mono ?_
  rintro e w1 ⟨v, rfl, hown, hw1⟩
  by_cases hN : N = 0
  · obtain rfl := hN
    rcases hown.2 with ⟨rfl, _⟩ | ⟨g', cap', cur, rfl, _, _⟩
    · go_wp2_with fail
      go_ret
      refine ⟨_, rfl, ?_, ?_⟩
      · have h1 : S = [] := by have h1 := HS.out; simpa using h1
        rw [h1]; exact World.ownsRow_nil _ _ _ _
      · have h1 : K = k1 := by have h1 := HK.out; simpa using h1
        rw [h1]; exact hw1
    · go_wp2_with fail
      go_ret
      refine ⟨_, rfl, ?_, ?_⟩
      · have h1 : S = [] := by have h1 := HS.out; simpa using h1
        have h2 : R = [] := List.eq_nil_of_length_eq_zero HL.out
        rw [h2] at hown; rw [h1]; exact hown
      · have h1 : K = k1 := by have h1 := HK.out; simpa using h1
        rw [h1]; exact hw1
  · obtain ⟨g1, cap1, rfl, hg1, hc1, hc2⟩ := own_form hown (by omega)
    have hN0 : 0 < N := by omega
    clear hN
    go_wp2_with fail
    refine (flip_went _ g L A cap k1 10 hw1.1 (by omega) (by omega)).mono ?_
    rintro e w2 ⟨rfl, hw2, _⟩
    have hown2 := own_but hw1.1 (by decide) hown hw2.2
    have hw2' : Went w g L A cap (k1 + 1) w2 := ⟨hw2.1, hw1.2.trans hw2.2⟩
    clear hown hw1 hw2
    by_cases hF : nxt L k1 10 = 0
    · have hF' : (nxt L k1 10 == 0) = true := by simpa using hF
      have HF := Lib.hid hF
      clear hF
      have hr := nxt_range L (k1 + 1) N (by omega)
      go_wp2_with fail
      refine (next_went _ g L A cap (k1 + 1) N hw2'.1 (by omega) (by omega)).mono ?_
      rintro e w3 ⟨rfl, hw3, _⟩
      have hown3 := own_but hw2'.1 (by decide) hown2 hw3.2
      have hw3' : Went w g L A cap (k1 + 2) w3 := ⟨hw3.1, hw2'.2.trans hw3.2⟩
      clear hown2 hw2' hw3
      go_wp2_with fail
      refine (one_went _ g L A cap (k1 + 2) hw3'.1 (by omega)).mono ?_
      rintro e w4 ⟨rfl, hw4⟩
      have hown4 := own_but hw3'.1 (by decide) hown3 hw4.2
      have hw4' : Went w g L A cap (k1 + 5) w4 := ⟨hw4.1, hw3'.2.trans hw4.2⟩
      clear hown3 hw3' hw4
      have hi : (nxt L (k1 + 1) N).toNat < N := by omega
      obtain ⟨c0, c1, c2⟩ := own_cells hown4 HL.out (nxt L (k1 + 1) N).toNat hi
      have f0 := hown4.frozenAt ((nxt L (k1 + 1) N).toNat * 3)
      have f1 := hown4.frozenAt ((nxt L (k1 + 1) N).toNat * 3 + 1)
      have f2 := hown4.frozenAt ((nxt L (k1 + 1) N).toNat * 3 + 2)
      generalize hy : oneSample L (k1 + 2) = y at *
      have HY := Lib.hid hy
      clear hy
      unfold Smp.agg
      go_wp2_with fail
      go_ret
      have hS1 : S = R.set (nxt L (k1 + 1) N).toNat y := by have h1 := HS.out; rw [if_neg (by omega), if_pos HF.out] at h1; exact h1
      have hK1 : K = k1 + 5 := by have h1 := HK.out; rw [if_neg (by omega), if_pos HF.out] at h1; exact h1
      obtain rfl := HL.out
      refine ⟨_, rfl, ?_, ?_⟩
      · rw [HL'.out, hS1]
        exact own_put hown4 _ hi y
      · rw [hK1]
        exact hw4'.below hlt0 ((((Below.refl w.heap.size w4).setCell hg1 _).setCell hg1 _).setCell hg1 _)
    · have hF' : (nxt L k1 10 == 0) = false := by simpa using hF
      have HF := Lib.hid hF
      clear hF
      go_wp2_with fail
      go_ret
      have hS1 : S = R := by have h1 := HS.out; rw [if_neg (by omega), if_neg HF.out] at h1; exact h1
      have hK1 : K = k1 + 1 := by have h1 := HK.out; rw [if_neg (by omega), if_neg HF.out] at h1; exact h1
      refine ⟨_, rfl, ?_, ?_⟩
      · rw [HL'.out, hS1]; exact hown2
      · rw [hK1]; exact hw2'
end Go.Proofs.Ytjkncmhmmafmjaa
