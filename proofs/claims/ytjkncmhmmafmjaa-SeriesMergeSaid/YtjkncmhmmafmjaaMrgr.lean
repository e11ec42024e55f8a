/- The contract of the reference of Merge, at right series. -/
import Derived.Test.YtjkncmhmmafmjaaSortf
import Derived.Test.YtjkncmhmmafmjaaCat
import Derived.Test.YtjkncmhmmafmjaaComp
import Derived.Test.YtjkncmhmmafmjaaSlice
namespace Go.Proofs.Ytjkncmhmmafmjaa
open Go.RowKit
set_option linter.unusedVariables false
set_option linter.unusedSimpArgs false

theorem algn_len (a b : List Smp) : (algn a b).length ≤ a.length + b.length := by
  match a, b with
  | [], b => rw [algn_nil_left]; simp
  | x :: a, [] => rw [algn_nil_right]; simp
  | x :: a, y :: b =>
    rw [algn_cons]
    split
    · have := algn_len a (y :: b); simp at this ⊢; omega
    · split
      · have := algn_len (x :: a) b; simp at this ⊢; omega
      · have := algn_len a b; simp at this ⊢; omega
  termination_by a.length + b.length

set_option maxRecDepth 100000 in
set_option maxHeartbeats 2000000 in
theorem mergedOf_any (va vb : Value) (a b : List Smp) (w : World) (ha : RdS w 27 va a) (hb : RdS w 27 vb b) (hSa : serErr a = 0) (hSb : serErr b = 0) (hlen : a.length + b.length ≤ 5000) :
    Calls Try.prog 14 #[va, vb] w fun e w' => ∃ v', e = .returned (.tuple #[v', .int .i64 0]) ∧ RdS w' 27 v' (algn a b) ∧ Below w.heap.size w w' := by
  obtain ⟨qa, ka, rfl⟩ : ∃ pa ca, va = .slice pa a.length ca := by obtain ⟨_, pa, ca, rfl, _⟩ := ha; exact ⟨pa, ca, rfl⟩
  obtain ⟨qb, kb, rfl⟩ : ∃ pb cb, vb = .slice pb b.length cb := by obtain ⟨_, pb, cb, rfl, _⟩ := hb; exact ⟨pb, cb, rfl⟩
  have hla := (serErr_good hSa).1
  have hlb := (serErr_good hSb).1
  have hok : ∀ x ∈ a ++ b, smpErr x = 0 := fun x hx => by
    rcases List.mem_append.1 hx with h | h
    · exact (serErr_good hSa).2 x h
    · exact (serErr_good hSb).2 x h
  have hfin := fun s h1 h2 => cpt_sorted (serErr_rise hSa) (serErr_rise hSb) (s := s) h1 h2
  have hal := algn_len a b
  have hB := Blk.new w 29 #[.slice qa a.length ka, .slice qb b.length kb]
  have hcc := concat_any _ _ a b w.heap.size _ (Rd.alloc ha (.cells #[.slice qa a.length ka, .slice qb b.length kb] 29)) (Rd.alloc hb _) hB hla hlb
  have HOK := Lib.hid hok
  have HFIN := Lib.hid hfin
  have HCC := Lib.hid hcc
  clear ha hb hSa hSb hok hfin hcc hB
  go_enter Try.func14, Try.ntmps14
  go_wp2_with fail
  refine HCC.out.mono ?_
  rintro e w1 ⟨v1, rfl, hown1, hb1⟩
  have hz1 := hb1.size
  have hs := sortSmp_any v1 (a ++ b) _ w1 HOK.out (by simp; omega) hown1
  have HS := Lib.hid hs
  clear hs hown1
  go_wp2_with fail
  refine HS.out.mono ?_
  rintro e w2 ⟨rfl, l', hp, hsort, hown2, hb2⟩
  have hl' : l'.length = (a ++ b).length := hp.length_eq
  have hc := compactFunc_any v1 l' w2 _ hown2 (by have := hb2.size; omega) (by rw [hl']; simp; omega)
  rw [HFIN.out l' hp hsort] at hc
  have HC := Lib.hid hc
  have hb12 := hb1.trans hb2
  clear hc hown2 hp hsort hl'
  go_wp2_with fail
  refine HC.out.mono ?_
  rintro e w3 ⟨v3, rfl, hr3, hb3⟩
  obtain ⟨pa, ca, rfl⟩ : ∃ pa ca, v3 = .slice pa (algn a b).length ca := by obtain ⟨_, pa, ca, rfl, _⟩ := hr3; exact ⟨pa, ca, rfl⟩
  have HR3 := Lib.hid hr3
  have hb13 := hb12.trans hb3
  clear hr3
  generalize hA : algn a b = A at *
  have HA := Lib.hid hA
  clear hA
  have hA5 : ¬ (5000 < (A.length : Int)) := by omega
  go_wp2_with fail
  go_ret2
  exact ⟨.slice pa A.length ca, rfl, by rw [HA.out]; exact HR3.out, ((Below.refl _ w).alloc (Nat.le_refl _) _).trans (hb13.mono (by simp))⟩
end Go.Proofs.Ytjkncmhmmafmjaa
