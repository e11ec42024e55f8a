/- The contract of Merge (package sample), and that the statements' sampled holds. -/
import Derived.Test.YtjkncmhmmafmjaaAlign
import Derived.Test.YtjkncmhmmafmjaaFac
import Derived.Laws.EntriesVeiled
namespace Go.Proofs.Ytjkncmhmmafmjaa
open Go.RowKit
set_option linter.unusedVariables false
set_option linter.unusedSimpArgs false

def orErr2 (a b : Int) : Int := if a ≠ 0 then a else b

set_option maxRecDepth 100000 in
set_option maxHeartbeats 1000000 in
theorem checkEach_any (va vb : Value) (a b : List Smp) (k : Nat) (w : World) (ha : RdS w 27 va a) (hb : RdS w 27 vb b) (hB : Blk w k 29 #[va, vb]) :
    Calls Try.prog 42 #[.func (.func 18) #[] #[], .slice (some ⟨k, 0, none⟩) 2 2] w fun e w' => e = .returned (.int .i64 (orErr2 (serErr a) (serErr b))) ∧ Below w.heap.size w w' := by
  have hc0 : w.cell? ⟨k, 0, none⟩ = some va := hB.cell 0
  have hc1 : w.cell? ⟨k, 1, none⟩ = some vb := hB.cell 1
  have HA := Lib.hid ha
  have HB := Lib.hid hb
  have HBK := Lib.hid hB
  have hk : k < w.heap.size := hB.lt
  clear ha hb hB
  go_enter Try.func42, Try.ntmps42
  go_wp2_with fail
  refine wp_loop_rounds 3 ?_
  rw [rounds_succ]
  go_wp2_with fail
  refine (checkSeries_any va a _ HA.out).mono ?_
  rintro e w1 ⟨rfl, hb1⟩
  have hd1 : w1.cell? ⟨k, 1, none⟩ = some vb := (HBK.out.below hb1 hk).cell 1
  by_cases hA : serErr a = 0
  · have hA' : (serErr a != 0) = false := by simpa using hA
    have HE := Lib.hid hA
    clear hA
    go_wp2_with fail
    rw [rounds_succ]
    go_wp2_with fail
    refine (checkSeries_any vb b _ (Rd.below HB.out hb1)).mono ?_
    rintro e w2 ⟨rfl, hb2⟩
    by_cases hB : serErr b = 0
    · have hB' : (serErr b != 0) = false := by simpa using hB
      have HF := Lib.hid hB
      clear hB
      go_wp2_with fail
      rw [rounds_succ]
      go_wp2_with fail
      go_ret
      exact ⟨ret_int (by rw [orErr2, if_neg (by rw [HE.out]; simp), HF.out]), hb1.trans (hb2.mono hb1.size)⟩
    · have hB' : (serErr b != 0) = true := by simpa using hB
      have HF := Lib.hid hB
      clear hB
      go_wp2_with fail
      go_ret
      exact ⟨ret_int (by rw [orErr2, if_neg (by rw [HE.out]; simp)]), hb1.trans (hb2.mono hb1.size)⟩
  · have hA' : (serErr a != 0) = true := by simpa using hA
    have HE := Lib.hid hA
    clear hA
    go_wp2_with fail
    go_ret
    exact ⟨ret_int (by rw [orErr2, if_pos HE.out]), hb1⟩

def mergeE (a b : List Smp) : Int := if orErr2 (serErr a) (serErr b) ≠ 0 then orErr2 (serErr a) (serErr b) else if 5000 < (algn a b).length then 2 else 0
def mergeR (a b : List Smp) : List Smp := if mergeE a b = 0 then algn a b else []

theorem serErr_len {l : List Smp} (h : serErr l = 0) : l.length ≤ 5000 := by
  unfold serErr at h
  split at h <;> omega

theorem mg_start (w : World) (T : TypeId) : Mg ((w.alloc (.cells #[.slice none 0 0] 29)).alloc (.cells #[.func (.func 43) #[] #[.pointer (some ⟨w.heap.size, 0, none⟩)]] 72)) w.heap.size [] :=
  ⟨⟨_, (Blk.new w 29 #[.slice none 0 0]).alloc _, World.ownsRow_nil _ _ _ _⟩, Blk.new1 _ _ _ _⟩

set_option maxRecDepth 100000 in
set_option maxHeartbeats 1000000 in
theorem merge_any (va vb : Value) (a b : List Smp) (w : World) (ha : RdS w 27 va a) (hb : RdS w 27 vb b) :
    Calls Try.prog 9 #[va, vb] w fun e w' => ∃ v', e = .returned (.tuple #[v', .int .i64 (mergeE a b)]) ∧ RdS w' 27 v' (mergeR a b) ∧ Below w.heap.size w w' := by
  have hmf : ∀ (fn : Fn) (first cap : Array Value) (w : World), (Instr.makeFunc fn first cap).run Try.prog w = .ok (.func fn first cap) w := fun _ _ _ _ => rfl
  obtain ⟨la, pa, ca, rfl, na1, na2, ca3⟩ := ha
  obtain ⟨lb, pb, cb, rfl, nb1, nb2, cb3⟩ := hb
  have HA := Lib.hid (show RdS w 27 (.slice pa a.length ca) a from ⟨la, pa, ca, rfl, na1, na2, ca3⟩)
  have HB := Lib.hid (show RdS w 27 (.slice pb b.length cb) b from ⟨lb, pb, cb, rfl, nb1, nb2, cb3⟩)
  clear la lb ca3 cb3
  go_enter Try.func9, Try.ntmps9
  go_wp2_with fail
  refine (checkEach_any _ _ a b w.heap.size _ (Rd.alloc HA.out _) (Rd.alloc HB.out _) (Blk.new _ _ _)).mono ?_
  rintro e w1 ⟨rfl, hb1⟩
  have hbw1 : Below w.heap.size w w1 := ((Below.refl _ w).alloc (Nat.le_refl _) _).trans (hb1.mono (by simp))
  have hra : RdS w1 27 (.slice pa a.length ca) a := Rd.below (Rd.alloc HA.out _) hb1
  have hrb : RdS w1 27 (.slice pb b.length cb) b := Rd.below (Rd.alloc HB.out _) hb1
  have HRA := Lib.hid hra
  have HRB := Lib.hid hrb
  clear hb1 hra hrb
  have hE : mergeE a b = if orErr2 (serErr a) (serErr b) ≠ 0 then orErr2 (serErr a) (serErr b) else if 5000 < (algn a b).length then 2 else 0 := rfl
  have hR : mergeR a b = if mergeE a b = 0 then algn a b else [] := rfl
  have HE := Lib.hid hE
  have HR := Lib.hid hR
  clear hE hR
  by_cases h0 : orErr2 (serErr a) (serErr b) = 0
  · have h0' : (orErr2 (serErr a) (serErr b) != 0) = false := by simpa using h0
    have hsa : serErr a = 0 := by unfold orErr2 at h0; split at h0 <;> omega
    have hsb : serErr b = 0 := by unfold orErr2 at h0; split at h0 <;> omega
    have hla := serErr_len hsa
    have hlb := serErr_len hsb
    have H0 := Lib.hid h0
    clear h0 hsa hsb
    have hS := mg_start w1 0
    have HS := Lib.hid hS
    clear hS
    go_wp2_with fail
    refine (align_any w1 _ w1.heap.size _ _ a b rfl HRA.out HRB.out hla hlb HS.out (((Below.refl _ w1).alloc (Nat.le_refl _) _).alloc (by simp) _)).mono ?_
    rintro e w2 ⟨rfl, hM2, hb2⟩
    have hb12 : Below w1.heap.size w1 w2 := (((Below.refl _ w1).alloc (Nat.le_refl _) _).alloc (by simp) _).trans hb2
    have hbw2 : Below w.heap.size w w2 := hbw1.trans (hb12.mono hbw1.size)
    obtain ⟨⟨vm, hbm, hown⟩, _⟩ := hM2
    have hrd : RdS w2 27 vm (algn a b) := Rd.of_own hown
    obtain ⟨lm, pm, cm, rfl, nm1, nm2, cm3⟩ := hrd
    have HRD := Lib.hid (show RdS w2 27 (.slice pm (algn a b).length cm) (algn a b) from ⟨lm, pm, cm, rfl, nm1, nm2, cm3⟩)
    have d0 : w2.cell? ⟨w1.heap.size, 0, none⟩ = some (.slice pm (algn a b).length cm) := hbm.cell 0
    unfold maxLen at nm2
    clear lm cm3 hown hbm hb2
    generalize algn a b = G at *
    by_cases hlong : 5000 < G.length
    · have hEE : mergeE a b = 2 := by rw [HE.out, if_neg (by rw [H0.out]; simp), if_pos hlong]
      have HEE := Lib.hid hEE
      clear hEE
      go_wp2_with fail
      go_ret2
      refine ⟨.slice none 0 0, by rw [HEE.out]; rfl, ?_, hbw2⟩
      rw [HR.out, HEE.out, if_neg (by omega)]; exact Rd.nil _ _ _
    · have hEE : mergeE a b = 0 := by rw [HE.out, if_neg (by rw [H0.out]; simp), if_neg hlong]
      have HEE := Lib.hid hEE
      clear hEE
      go_wp2_with fail
      go_ret2
      refine ⟨.slice pm G.length cm, by rw [HEE.out]; rfl, ?_, hbw2⟩
      rw [HR.out, HEE.out, if_pos rfl]; exact HRD.out
  · have h0' : (orErr2 (serErr a) (serErr b) != 0) = true := by simpa using h0
    have hEE : mergeE a b = orErr2 (serErr a) (serErr b) := by rw [HE.out, if_pos h0]
    have HEE := Lib.hid hEE
    have H0 := Lib.hid h0
    clear h0 hEE
    go_wp2_with fail
    go_ret2
    refine ⟨.slice none 0 0, by rw [HEE.out]; rfl, ?_, hbw1⟩
    rw [HR.out, HEE.out, if_neg H0.out]; exact Rd.nil _ _ _
end Go.Proofs.Ytjkncmhmmafmjaa
