/- A row of the call's own, of records of k cells, as what the shelf's sorts take and leave. -/
import Derived.Test.YtamcbiajicnbfaaApp
import Derived.Shelf.SlSortCmp.SmallK
import Derived.Shelf.SlSortCmp.Xorshift
namespace Go.Proofs.Ytamcbiajicnbfaa
open Go.RowKit Go.Shelf Go.Sort Go.Lib
set_option linter.unusedVariables false
set_option linter.unusedSimpArgs false

section
variable {α : Type} [Inhabited α] (enc : α → List Value) (k : Nat) (hk : ∀ x, (enc x).length = k)
include hk
omit [Inhabited α] in
theorem flatMap_long (l : List α) : (l.flatMap enc).length = l.length * k := by
  induction l with
  | nil => simp
  | cons x r ih => simp only [List.flatMap_cons, List.length_append, List.length_cons, ih, hk]; rw [Nat.add_mul]; omega
omit [Inhabited α] in
theorem flatMap_at (l : List α) (i : Nat) (h : i < l.length) (j : Nat) (hj : j < k) : (l.flatMap enc)[i * k + j]? = (enc (l[i]))[j]? := by
  induction l generalizing i with
  | nil => simp at h
  | cons x r ih =>
    cases i with
    | zero => simp only [List.flatMap_cons, Nat.zero_mul, Nat.zero_add]; rw [List.getElem?_append_left (by rw [hk]; exact hj)]; rfl
    | succ i =>
      simp only [List.flatMap_cons]
      rw [List.getElem?_append_right (by rw [hk, Nat.add_mul]; omega), hk, show (i + 1) * k + j - k = i * k + j by rw [Nat.add_mul]; omega, ih i (by simpa using h)]
      rfl
theorem flatG (d : Array α) (l : List α) (hd : d.toList = l) (t : Nat) (h : t < d.size * k) : (l.flatMap enc)[t]? = some (flatK enc k d)[t]! := by
  subst hd
  rw [get_flatK enc k d t h]
  have hk0 : 0 < k := Nat.pos_of_ne_zero (fun e => by rw [e] at h; omega)
  have hi : t / k < d.size := Nat.div_lt_of_lt_mul (by rw [Nat.mul_comm]; exact h)
  have e : t / k * k + t % k = t := by rw [Nat.mul_comm]; exact Nat.div_add_mod t k
  have hj : t % k < k := Nat.mod_lt _ hk0
  have := flatMap_at enc k hk d.toList (t / k) (by simpa using hi) (t % k) hj
  rw [e] at this
  rw [this]
  have hg : d.toList[t / k]'(by simpa using hi) = d[t / k]! := by simp [getElem!_pos, hi]
  rw [hg]
  have h3 : t % k < (enc d[t / k]!).length := by rw [hk]; exact hj
  rw [List.getElem?_eq_getElem h3]
  simp [h3]
theorem holds_of_own {w : World} {base g cap : Nat} {e : TypeId} (l : List α) (h : w.ownsRow base e k (.slice (some ⟨g, 0, none⟩) l.length cap) l.length (l.flatMap enc)) : HoldsK enc k w g 0 l.toArray := fun j hj => by
  rw [size_flatK] at hj
  refine ⟨?_, h.frozenAt _⟩
  rw [Nat.zero_add, h.cellAt j (by simpa using hj), flatG enc k hk l.toArray l rfl j hj]
  rfl
theorem own_sortedG {w : World} {base g cap m : Nat} {e : TypeId} {l : List α} {d' : Array α} {os : Array Obj} (h : w.ownsRow base e k (.slice (some ⟨g, 0, none⟩) l.length cap) l.length (l.flatMap enc)) (hs : d'.size = l.length) :
    (sortWorldK enc k w g 0 m d' os).ownsRow base e k (.slice (some ⟨g, 0, none⟩) l.length cap) l.length (d'.toList.flatMap enc) ∧ Below g w (sortWorldK enc k w g 0 m d' os) ∧ w.grownBy (sortWorldK enc k w g 0 m d' os) (some g) := by
  rcases h.2 with ⟨e0, _⟩ | ⟨g', cap', cur, e0, hb, hg, hn, hm, hsz, ht⟩
  · cases e0
  · injection e0 with e1 _ e3
    injection e1 with e1
    injection e1 with e1
    subst e1; subst e3
    have hlt : g < w.heap.size := lt_of_heap hg
    have hle : l.length * k ≤ cap * k := Nat.mul_le_mul_right k hn
    have hcell : (sortWorldK enc k w g 0 m d' os).heap[g]? = some (.cells (putCells id 0 (flatK enc k d') cur) e (0, 0)) := by
      unfold sortWorldK grow
      simp only [Array.getElem?_append]
      rw [if_pos (by simp [putRowK, putRow, mapBlock, Sort.ahead]; exact hlt)]
      simp [putRowK, putRow, mapBlock, Sort.ahead, Array.getElem?_modify, hg, onCells]
    refine ⟨⟨by rw [flatMap_long enc k hk]; simp [hs], .inr ⟨g, cap, _, rfl, hb, hcell, hn, hm, by simpa [putCells] using hsz, ?_⟩⟩, ?_⟩
    · apply List.ext_getElem?
      intro j
      rw [List.getElem?_take, Array.getElem?_toList]
      by_cases hj : j < l.length * k
      · have hjc : j < cur.size := by rw [hsz]; omega
        rw [if_pos hj, flatG enc k hk d' d'.toList rfl j (by rw [hs]; exact hj)]
        simp only [putCells, Array.getElem?_mapIdx, Array.getElem?_eq_getElem hjc, Option.map_some]
        rw [if_pos (by simp [hs]; exact hj)]
        simp
      · rw [if_neg hj, List.getElem?_eq_none (by rw [flatMap_long enc k hk]; simp [hs]; omega)]
    · have hsize : w.heap.size ≤ (sortWorldK enc k w g 0 m d' os).heap.size := by simp [sortWorldK, grow, putRowK, putRow, mapBlock, Sort.ahead]
      have hblock : ∀ j, j < w.heap.size → g ≠ j → (sortWorldK enc k w g 0 m d' os).heap[j]? = w.heap[j]? := fun j hj hne => by
        unfold sortWorldK grow
        simp only [Array.getElem?_append]
        rw [if_pos (by simp [putRowK, putRow, mapBlock, Sort.ahead]; omega)]
        simp [putRowK, putRow, mapBlock, Sort.ahead, Array.getElem?_modify, hne]
      exact ⟨⟨rfl, rfl, rfl, hsize, fun j hj => hblock j (by omega) (by omega)⟩, ⟨rfl, rfl, rfl, hsize, fun j hj hne => hblock j hj (fun e => hne (by rw [e]))⟩⟩
end
section
variable {α : Type} [Inhabited α]
theorem perm_of {d d' : Array α} (h : PermIn 0 d.size d d') : d'.toList.Perm d.toList := by
  obtain ⟨h1, _, h2⟩ := h
  rw [Array.extract_eq_self_of_le (by omega), Array.extract_eq_self_of_le (Nat.le_refl _)] at h2
  exact h2
theorem sorted_of {lt : α → α → Bool} {d : Array α} (h : SortedIn lt 0 d.size d) : d.toList.Pairwise (fun x y => lt y x = false) := by
  rw [List.pairwise_iff_getElem]
  intro i j hi hj hij
  have := h i j (Nat.zero_le _) hij (by simpa using hj)
  simpa [getElem!_pos, show i < d.size by simpa using hi, show j < d.size by simpa using hj] using this
end
end Go.Proofs.Ytamcbiajicnbfaa
