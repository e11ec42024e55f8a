/- The contract of slices.SortFunc at samples, by the reference's order. -/
import Derived.Test.YtjkncmhmmafmjaaSortm
namespace Go.Proofs.Ytjkncmhmmafmjaa
open Go.RowKit Go.Shelf Go.Sort Go.Lib
set_option linter.unusedVariables false
set_option linter.unusedSimpArgs false

/-- A sample that is right. -/
structure OkS where
  val : Smp
  ok : smpErr val = 0
instance : Inhabited OkS := ⟨⟨⟨0, 0, 0⟩, by simp [smpErr, inB]⟩⟩
theorem OkS.same {x y : OkS} (h : x.val = y.val) : x = y := by
  obtain ⟨x, _⟩ := x
  obtain ⟨y, _⟩ := y
  simp at h
  subst h
  rfl
def encS (x : OkS) : List Value := x.1.cells
def ordS (x y : OkS) : Int := ordL x.1 y.1
theorem ltOf_ordS (x y : OkS) : ltOf ordS x y = keyLt x.1 y.1 := by unfold ltOf ordS; exact ordL_lt x.1 y.1
theorem swo_ordS : SWO (ltOf ordS) where
  irrefl x := by rw [ltOf_ordS]; simp [keyLt]
  trans x y z h1 h2 := by rw [ltOf_ordS] at *; simp [keyLt] at *; omega
  ntrans x y z h1 h2 := by rw [ltOf_ordS] at *; simp [keyLt] at *; omega
theorem total_ordS (x y : OkS) (h1 : ltOf ordS x y = false) (h2 : ltOf ordS y x = false) : x = y := by
  rw [ltOf_ordS] at *
  exact OkS.same (keyLe_anti x.1 y.1 (by simp [keyLe, h2]) (by simp [keyLe, h1]))
theorem encS_len (x : OkS) : (encS x).length = 3 := rfl
theorem encS_one (x : OkS) : ∀ v ∈ encS x, v.oneCell' = true := fun v hv => by
  simp [encS, Smp.cells] at hv
  rcases hv with rfl | rfl | rfl <;> rfl

theorem flatS (d : Array OkS) (l : List Smp) (hd : d.toList.map OkS.val = l) (t : Nat) (h : t < d.size * 3) : (cellsOf l)[t]? = some (flatK encS 3 d)[t]! := by
  subst hd
  rw [get_flatK encS 3 d t h]
  have hi : t / 3 < d.size := by omega
  have e : t / 3 * 3 + t % 3 = t := by omega
  have := cellsOf_get (d.toList.map OkS.val) (t / 3) (by simpa using hi) (t % 3) (by omega)
  rw [e] at this
  rw [this]
  have hg : (d.toList.map OkS.val)[t / 3]'(by simpa using hi) = (d[t / 3]!).1 := by simp [getElem!_pos, hi]
  rw [hg]
  have h3 : t % 3 < (encS d[t / 3]!).length := by rw [encS_len]; omega
  show (encS d[t / 3]!)[t % 3]? = _
  rw [List.getElem?_eq_getElem h3]
  simp [h3]

theorem sort_list (l : List Smp) (hl : ∀ x ∈ l, smpErr x = 0) : ∃ d : Array OkS, d.toList.map OkS.val = l ∧ d.size = l.length := by
  refine ⟨(l.attach.map fun x => ⟨x.1, hl x.1 x.2⟩).toArray, ?_, by simp⟩
  simp

theorem enter_mergedOf1 (args : Array Value) (w : World) : (callFunc 54 args).run Try.prog w = .ok (.enter 54 args) w := by kernel_rfl

theorem cmpLays_ordS (blk off size : Nat) (w : World) : CmpLays Try.prog 54 #[] encS 3 ordS blk off size w :=
  fun _ _ _ _ x y => mergedOf1_any x.1 y.1 _ (smpErr_good x.2).2.2.1 (smpErr_good y.2).2.2.1

theorem own_sorted {w : World} {base g cap n m : Nat} {e : TypeId} {l l' : List Smp} {d' : Array OkS} {os : Array Obj} (h : w.ownsRow base e 3 (.slice (some ⟨g, 0, none⟩) n cap) n (cellsOf l)) (hl : l.length = n) (hd : d'.toList.map OkS.val = l') (hl' : l'.length = n) :
    (sortWorldK encS 3 w g 0 m d' os).ownsRow base e 3 (.slice (some ⟨g, 0, none⟩) n cap) n (cellsOf l') ∧ Below g w (sortWorldK encS 3 w g 0 m d' os) := by
  rcases h.2 with ⟨e0, _⟩ | ⟨g', cap', cur, e0, hb, hg, hn, hm, hs, ht⟩
  · cases e0
  · injection e0 with e1 _ e3
    injection e1 with e1
    injection e1 with e1
    subst e1; subst e3
    have hsz : d'.size = n := by rw [← hl', ← hd]; simp
    have hlt : g < w.heap.size := lt_of_heap hg
    have hcell : (sortWorldK encS 3 w g 0 m d' os).heap[g]? = some (.cells (putCells id 0 (flatK encS 3 d') cur) e (0, 0)) := by
      unfold sortWorldK grow
      simp only [Array.getElem?_append]
      rw [if_pos (by simp [putRowK, putRow, mapBlock, Sort.ahead]; exact hlt)]
      simp [putRowK, putRow, mapBlock, Sort.ahead, Array.getElem?_modify, hg, onCells]
    refine ⟨⟨by rw [cellsOf_length, hl'], .inr ⟨g, cap, _, rfl, hb, hcell, hn, hm, by simpa [putCells] using hs, ?_⟩⟩, ?_⟩
    · apply List.ext_getElem?
      intro j
      rw [List.getElem?_take, Array.getElem?_toList]
      by_cases hj : j < n * 3
      · have hjc : j < cur.size := by rw [hs]; have := Nat.mul_le_mul_right 3 hn; omega
        rw [if_pos hj, flatS d' l' hd j (by rw [hsz]; exact hj)]
        simp only [putCells, Array.getElem?_mapIdx, Array.getElem?_eq_getElem hjc, Option.map_some]
        rw [if_pos (by simp [hsz]; exact hj)]
        simp
      · rw [if_neg hj, List.getElem?_eq_none (by rw [cellsOf_length, hl']; omega)]
    · refine ⟨rfl, rfl, rfl, ?_, fun k hk => ?_⟩
      · simp [sortWorldK, grow, putRowK, putRow, mapBlock, Sort.ahead]
      · unfold sortWorldK grow
        simp only [Array.getElem?_append]
        rw [if_pos (by simp [putRowK, putRow, mapBlock, Sort.ahead]; omega)]
        simp [putRowK, putRow, mapBlock, Sort.ahead, Array.getElem?_modify, show g ≠ k by omega]

theorem sortSmp_any (v : Value) (l : List Smp) (base : Nat) (w : World) (hl : ∀ x ∈ l, smpErr x = 0) (hlong : l.length ≤ 1000000) (h : w.ownsRow base 27 3 v l.length (cellsOf l)) :
    Calls Try.prog 53 #[v, .func (.func 54) #[] #[]] w fun e w' => e = .returned (.tuple #[]) ∧
      ∃ l' : List Smp, l'.Perm l ∧ l'.Pairwise (fun x y => keyLe x y = true) ∧ w'.ownsRow base 27 3 v l'.length (cellsOf l') ∧ Below base w w' := by
  rcases h.2 with ⟨rfl, h0⟩ | ⟨g, cap, cur, rfl, hb, hg, hn, hm, hs, ht⟩
  · have h1 : l.length = 0 := by have := h.1; rw [h0] at this; simp at this; omega
    obtain rfl := List.eq_nil_of_length_eq_zero h1
    have hc := AnyF.slices_SortFunc_none { Try.sortSmp with } none 0 (.func (.func 54) #[] #[]) w
    refine (show Calls Try.prog 53 _ _ _ from hc).mono ?_
    rintro e w' ⟨rfl, rfl⟩
    exact ⟨rfl, [], .refl _, .nil, h, Below.refl _ _⟩
  · obtain ⟨d, hd, hds⟩ := sort_list l hl
    have hH : HoldsK encS 3 w g 0 d := fun j hj => by
      rw [size_flatK, hds] at hj
      refine ⟨?_, h.frozenAt _⟩
      rw [Nat.zero_add, h.cellAt j hj, flatS d l hd j (by rw [hds]; exact hj)]
      rfl
    have hc := AnyQ.slices_SortFunc_total Try.sortSmp 3 Try.isAgg27 Try.sizeOf27 encS encS_len encS_one ordS swo_ordS 54 #[] g 0 cap d w enter_mergedOf1 (cmpLays_ordS _ _ _ _) hH (lt_of_heap hg) (by omega) total_ordS
    rw [hds] at hc
    refine (show Calls Try.prog 53 _ _ _ from hc).mono ?_
    rintro e w' ⟨rfl, n, os, rfl⟩
    have hperm := List.mergeSort_perm d.toList (fun x y => !(ltOf ordS) y x)
    have hp2 := hperm.map OkS.val
    rw [hd] at hp2
    have hsorted : (d.toList.mergeSort (fun x y => !(ltOf ordS) y x)).Pairwise (fun x y => (!(ltOf ordS) y x) = true) :=
      List.pairwise_mergeSort (fun x y z h1 h2 => by rw [ltOf_ordS] at *; simp [keyLt] at *; omega) (fun x y => by rw [ltOf_ordS, ltOf_ordS]; simp [keyLt]; omega) _
    have hll : ((d.toList.mergeSort (fun x y => !(ltOf ordS) y x)).map OkS.val).length = l.length := hp2.length_eq
    refine ⟨rfl, (d.toList.mergeSort (fun x y => !(ltOf ordS) y x)).map OkS.val, hp2, ?_, ?_, ?_⟩
    · rw [List.pairwise_map]
      exact hsorted.imp (fun {x y} h => by rw [ltOf_ordS] at h; exact h)
    · rw [hll]
      exact (own_sorted h rfl (by simp) hll).1
    · exact Below.mono (own_sorted (m := n) (os := os) h rfl (by simp) hll).2 hb
end Go.Proofs.Ytjkncmhmmafmjaa
