/- The contract of GapsOf (the reference). -/
import Derived.Test.YtjkncmhmmafmjaaSlic
import Derived.Test.YtjkncmhmmafmjaaStuck
namespace Go.Proofs.Ytjkncmhmmafmjaa
open Go.RowKit
set_option linter.unusedVariables false
set_option linter.unusedSimpArgs false

/-- What is read stays while a row of another type grows. -/
theorem Rd.keep_grown {w w' : World} {e e' : TypeId} {size n base size' n' : Nat} {v u : Value} {xs ys : List Value} (h : Rd w e size v n xs) (hown : w.ownsRow base e' size' u n' ys) (hgrow : w.grownBy w' u.ownBlock) (hne : e ≠ e') : Rd w' e size v n xs := by
  refine h.keep fun b cur fr hh => hgrow.block b (lt_of_heap hh) ?_
  intro hb
  obtain ⟨_, ⟨rfl, _⟩ | ⟨g, cap, cur', rfl, _, hh', _⟩⟩ := hown
  · cases hb
  · simp [Value.ownBlock] at hb
    subst hb
    rw [hh] at hh'
    injection hh' with hh'
    injection hh' with _ h2 _
    exact hne h2

def iAt (l : List Int) (i : Nat) : Int := l.getD i 0
theorem iAt_eq (l : List Int) (i : Nat) (h : i < l.length) : l[i] = iAt l i := by simp [iAt, List.getD_eq_getElem?_getD, List.getElem?_eq_getElem h]
theorem RdI.at_ {w : World} {v : Value} {l : List Int} (h : RdI w v l) (hn : 0 < l.length) :
    ∃ b off c, v = .slice (some ⟨b, off, none⟩) l.length c ∧ l.length ≤ c ∧ c ≤ maxLen ∧ b < w.heap.size ∧ ∀ i, i < l.length → w.cell? ⟨b, off + i, none⟩ = some (.int .i64 (iAt l i)) := by
  obtain ⟨b, off, c, hv, h2, h3, hlt, hc⟩ := RdI.cells h hn
  exact ⟨b, off, c, hv, h2, h3, hlt, fun i hi => by rw [← iAt_eq l i hi]; exact hc i hi⟩

/-- The moments of what is not Bad. -/
def tsL (l : List Smp) : List Int := (l.filter fun x => decide (x.q ≠ 2)).map Smp.t
theorem tsL_step (l : List Smp) (j : Nat) (h : j < l.length) : tsL (l.take (j + 1)) = if (atS l j).q = 2 then tsL (l.take j) else tsL (l.take j) ++ [(atS l j).t] := by
  unfold tsL
  rw [List.take_succ_eq_append_getElem h, List.filter_append, List.map_append, atS_eq l j h]
  by_cases hq : (atS l j).q = 2
  · rw [if_pos hq]; simp [hq]
  · rw [if_neg hq]; simp [hq]
theorem tsL_len (l : List Smp) : (tsL l).length ≤ l.length := by
  unfold tsL; rw [List.length_map]; exact List.length_filter_le _ _
theorem tsL_mem {l : List Smp} {y : Int} (h : y ∈ tsL l) : ∃ x ∈ l, x.t = y := by
  unfold tsL at h
  obtain ⟨x, hx, rfl⟩ := List.mem_map.1 h
  exact ⟨x, (List.mem_filter.1 hx).1, rfl⟩

/-- The gaps longer than d before each of these moments, one being free from then on. -/
def gapL (d : Int) (free : Int) : List Int → List (Int × Int)
  | [] => []
  | e :: r => (if d < e - free then [(free, e)] else []) ++ gapL d (e + 1) r
def gapF (f t d : Int) (l : List Smp) : List (Int × Int) := gapL d f (tsL (slicF f t l) ++ [t])
theorem gapL_step (d free : Int) (L : List Int) (j : Nat) (h : j < L.length) : gapL d free (L.drop j) = (if d < iAt L j - free then [(free, iAt L j)] else []) ++ gapL d (iAt L j + 1) (L.drop (j + 1)) := by
  rw [List.drop_eq_getElem_cons h, gapL, iAt_eq L j h]

theorem slic_good {f t : Int} {l : List Smp} (hat : ∀ i, 0 ≤ (atS l i).t ∧ (atS l i).t ≤ 345686399999) {x : Smp} (hx : x ∈ slicF f t l) : 0 ≤ x.t ∧ x.t ≤ 345686399999 := by
  obtain ⟨i, hi, rfl⟩ := List.getElem_of_mem (List.mem_filter.1 hx).1
  rw [atS_eq l i hi]; exact hat i

set_option maxRecDepth 100000 in
set_option maxHeartbeats 4000000 in
theorem gapsOf_any (v : Value) (l : List Smp) (f t d : Int) (w : World) (hR : RdS w 27 v l) (hat : ∀ i, 0 ≤ (atS l i).t ∧ (atS l i).t ≤ 345686399999) (hlong : l.length ≤ 5000) (hw : winB f t = true) :
    Calls Try.prog 28 #[v, .agg #[.int .i64 f, .int .i64 t], .int .i64 d] w fun e w' => ∃ v', e = .returned v' ∧ RdW w' v' (gapF f t d l) ∧ Below w.heap.size w w' := by
  have hB := Blk.new w 32 #[.int .i64 f, .int .i64 t]
  have HB := Lib.hid hB
  have HR := Lib.hid hR
  have HAT := Lib.hid hat
  obtain ⟨hw1, hw2, hw3⟩ := winB_true.1 hw
  clear hB hR hat hw
  go_enter Try.func28, Try.ntmps28
  go_wp2_with fail
  refine (sliceOf_any v l f t _ (Rd.alloc (Rd.alloc HR.out _) _) hlong).mono ?_
  rintro e w1 ⟨v1, rfl, hR1, hb1⟩
  obtain ⟨M, hM⟩ : ∃ M, M = slicF f t l := ⟨_, rfl⟩
  rw [← hM] at hR1
  have hMl : M.length ≤ l.length := by rw [hM]; exact List.length_filter_le _ _
  have hMt : ∀ i, i < M.length → 0 ≤ (atS M i).t ∧ (atS M i).t ≤ 345686399999 := fun i hi => by
    rw [← atS_eq M i hi]; exact slic_good (f := f) (t := t) HAT.out (by rw [← hM]; exact List.getElem_mem hi)
  have hfin : gapF f t d l = gapL d f (tsL M ++ [t]) := by rw [hM]; rfl
  have HFIN := Lib.hid hfin
  have HMT := Lib.hid hMt
  have hown1 : w1.ownsRow (w.heap.size + 1) 3 1 (.slice (some ⟨w.heap.size + 1, 0, none⟩) 0 0) (tsL (M.take 0)).length ((tsL (M.take 0)).map (Value.int .i64)) := by
    refine own_below (w := (w.alloc (.cells #[.int .i64 f, .int .i64 t] 32)).alloc (.cells #[] 3)) ?_ hb1
    exact ⟨by simp [tsL], .inr ⟨_, 0, #[], rfl, Nat.le_refl _, by have := heap_alloc_new (w.alloc (.cells #[.int .i64 f, .int .i64 t] 32)) (.cells #[] 3); simpa using this, Nat.le_refl _, by simp [maxLen], rfl, rfl⟩⟩
  have hb01 : Below (w.heap.size + 1) (w.alloc (.cells #[.int .i64 f, .int .i64 t] 32)) w1 := ((Below.refl _ _).alloc (by simp) _).trans (hb1.mono (by simp))
  obtain ⟨pa, ca, rfl⟩ : ∃ pa ca, v1 = .slice pa M.length ca := by obtain ⟨_, pa, ca, rfl, _⟩ := hR1; exact ⟨pa, ca, rfl⟩
  have HR1 := Lib.hid hR1
  have HO1 := Lib.hid hown1
  have HB01 := Lib.hid hb01
  clear hM hMt hfin hR1 hown1 hb01 hb1
  go_wp2_with fail
  go_loopw [9, 21] (fun se si wr => ∃ j : Nat, j ≤ M.length ∧ si = .int .i64 (j : Int) ∧ wr.ownsRow (w.heap.size + 1) 3 1 se (tsL (M.take j)).length ((tsL (M.take j)).map (Value.int .i64)) ∧ RdS wr 27 (.slice pa M.length ca) M ∧ Below (w.heap.size + 1) (w.alloc (.cells #[.int .i64 f, .int .i64 t] 32)) wr) (fun _ si _ => M.length - (intOf si).toNat)
  case atStart => exact ⟨0, by omega, rfl, HO1.out, HR1.out, HB01.out⟩
  case round =>
    obtain ⟨j, hj, rfl, hown, hRr, hbr⟩ := hrel
    have hwz : w.heap.size + 1 ≤ wr.heap.size := by have := hbr.size; simpa using this
    have hlen := tsL_len (M.take j)
    have hlen2 : (tsL (M.take j)).length ≤ j := by simp at hlen; omega
    by_cases hlt : j < M.length
    · have hstep := tsL_step M j hlt
      have hMt := HMT.out j hlt
      obtain ⟨b, off, c, hv, hc1, hc2, hblt, hcell⟩ := RdS.at_ hRr (by omega)
      simp only [Value.slice.injEq, true_and] at hv
      obtain ⟨rfl, rfl⟩ := hv
      obtain ⟨c0, c1, c2⟩ := hcell j hlt
      have HRR := Lib.hid hRr
      generalize atS M j = x at *
      generalize tsL (M.take j) = acc at *
      have HSTEP := Lib.hid hstep
      clear hstep hcell hRr hlen
      unfold maxLen at hc2
      by_cases hq : x.q = 2
      · have hq' : (x.q != 2) = false := by simpa using hq
        have HQ := Lib.hid hq
        clear hq
        go_wp2_with fail
        go_roundw
        case rel => exact ⟨j + 1, by omega, by go_num, by rw [HSTEP.out, if_pos HQ.out]; exact hown.alloc _, Rd.alloc HRR.out _, hbr.alloc hwz _⟩
        case measure => simp [intOf]; omega
      · have hq' : (x.q != 2) = true := by simpa using hq
        have HQ := Lib.hid hq
        clear hq
        go_wp2_with (at_builtin; refine wpList_append_num rfl (.tmp 28) (.tmp 31) rfl (w.heap.size + 1) u9 acc.length acc rfl (by exact (hown.alloc _).alloc _) (wr.heap.size + 1) rfl x.t (by exact Blk.new1 _ _ _ _) (by omega) (by simp; omega) ?_; intro v6 w6 hown6 hgrow6)
        go_roundw
        case rel =>
          exact ⟨j + 1, by omega, by go_num, by rw [HSTEP.out, if_neg HQ.out, List.length_append]; exact hown6, Rd.keep_grown (Rd.alloc (Rd.alloc HRR.out _) _) ((hown.alloc _).alloc _) hgrow6 (by decide),
            ((hbr.alloc hwz _).alloc (by simp; omega) _).trans (below_grown ((hown.alloc _).alloc _) (by simp; omega) hgrow6)⟩
        case measure => simp [intOf]; omega
    · obtain rfl : j = M.length := by omega
      rw [List.take_length] at hown hlen hlen2
      have hbw : Blk wr w.heap.size 32 #[.int .i64 f, .int .i64 t] := HB.out.below hbr (by omega)
      have c1 : wr.cell? ⟨w.heap.size, 1, none⟩ = some (.int .i64 t) := hbw.cell 1
      have hLm : ∀ y ∈ tsL M ++ [t], 0 ≤ y ∧ y ≤ 345686400000 := by
        intro y hy
        rcases List.mem_append.1 hy with hy | hy
        · obtain ⟨x, hx, rfl⟩ := tsL_mem hy
          obtain ⟨i, hi, rfl⟩ := List.getElem_of_mem hx
          have := HMT.out i hi
          rw [atS_eq M i hi]; omega
        · simp at hy; subst hy; omega
      have HFIN2 := Lib.hid (show gapF f t d l = gapL d f (tsL M ++ [t]) from HFIN.out)
      clear HFIN HMT hbw hRr
      generalize tsL M = T at *
      go_wp2_with (at_builtin; refine wpList_append_num rfl (.tmp 34) (.tmp 37) rfl (w.heap.size + 1) u9 T.length T rfl (by exact hown.alloc _) wr.heap.size rfl t (by exact Blk.new _ _ _) (by omega) (by simp; omega) ?_; intro v6 w6 hown6 hgrow6; obtain ⟨g6, cap6, rfl, hg6, hc6, hcm6⟩ := own_form hown6 (by omega))
      have hb6 : Below w.heap.size w w6 := ((Below.refl _ w).alloc (Nat.le_refl _) _).trans (((hbr.alloc hwz _).trans (below_grown (hown.alloc _) (by simp; omega) hgrow6)).mono (by omega))
      obtain ⟨L, hL⟩ : ∃ L, L = T ++ [t] := ⟨_, rfl⟩
      have hLl : T.length + 1 = L.length := by rw [hL]; simp
      have hread : RdI w6 (.slice (some ⟨g6, 0, none⟩) (T.length + 1) cap6) L := by
        unfold RdI
        rw [← hLl, hL]
        exact Rd.of_own hown6
      rw [← hL] at HFIN2 hLm
      have hLi : ∀ i, i < L.length → 0 ≤ iAt L i ∧ iAt L i ≤ 345686400000 := fun i hi => by rw [← iAt_eq L i hi]; exact hLm _ (List.getElem_mem hi)
      have HLI := Lib.hid hLi
      have hread : RdI w6 (.slice (some ⟨g6, 0, none⟩) L.length cap6) L := by rw [← hLl]; exact hread
      have HRE := Lib.hid hread
      have HLL := Lib.hid hLl
      have hL1 : L.length ≤ 5001 := by omega
      clear hLl hread hLi hLm hL hgrow6 hown6 hown hbr c1
      go_loopw [7, 8, 40] (fun sg sf si wk => ∃ (j : Nat) (acc : List (Int × Int)) (free : Int), j ≤ T.length + 1 ∧ sf = .int .i64 free ∧ si = .int .i64 (j : Int) ∧ wk.ownsRow w6.heap.size 32 2 sg acc.length (pairCells acc) ∧ acc ++ gapL d free (L.drop j) = gapL d f L ∧ acc.length ≤ j ∧ (0 ≤ free ∧ free ≤ 345686400001) ∧ Below w6.heap.size w6 wk) (fun _ _ si _ => T.length + 1 - (intOf si).toNat)
      case atStart => exact ⟨0, [], f, by omega, rfl, rfl, World.ownsRow_nil _ _ _ _, rfl, by simp, by omega, Below.refl _ _⟩
      case round =>
        obtain ⟨j, acc, free, hj, rfl, rfl, hown, hacc, hal, hfree, hbk⟩ := hrel
        have HACC := Lib.hid hacc
        clear hacc
        have hwk := hbk.size
        by_cases hlt : j < T.length + 1
        · have hjL : j < L.length := by have := HLL.out; omega
          have hRk : RdI wr (.slice (some ⟨g6, 0, none⟩) L.length cap6) L := Rd.below HRE.out hbk
          have hstep := gapL_step d free L j hjL
          have hE := HLI.out j hjL
          obtain ⟨b, off, c, hv, hc1, hc2, hblt, hcell⟩ := RdI.at_ hRk (by omega)
          simp only [Value.slice.injEq, Option.some.injEq, Addr.mk.injEq, and_true, true_and] at hv
          obtain ⟨⟨rfl, rfl⟩, rfl⟩ := hv
          have c0 := hcell j hjL
          rw [Nat.zero_add] at c0
          generalize iAt L j = E at *
          have HSTEP := Lib.hid hstep
          clear hstep hcell hRk
          unfold maxLen at hc2
          by_cases hge : d < E - free
          · go_wp2_with (at_builtin; refine wpList_append_win rfl (.tmp 49) (.tmp 53) rfl w6.heap.size u7 acc.length acc rfl (by exact hown.alloc _) wr.heap.size rfl (free, E) (by exact Blk.new _ _ _) (by omega) (by simp; omega) ?_; intro v3 w3 hown3 hgrow3)
            have hb3 := (hbk.alloc hwk (.cells #[.int .i64 free, .int .i64 E] 32)).trans (below_grown (hown.alloc _) (by simp; omega) hgrow3)
            clear hgrow3
            go_roundw
            case rel => exact ⟨j + 1, acc ++ [(free, E)], E + 1, by omega, by go_num, by go_num, by rw [List.length_append]; exact hown3, by rw [← HACC.out, HSTEP.out, if_pos hge]; simp, by simp; omega, by omega, hb3⟩
            case measure => simp [intOf]; omega
          · go_wp2_with fail
            go_roundw
            case rel => exact ⟨j + 1, acc, E + 1, by omega, by go_num, by go_num, hown, by rw [← HACC.out, HSTEP.out, if_neg hge]; rfl, by omega, by omega, hbk⟩
            case measure => simp [intOf]; omega
        · obtain rfl : j = T.length + 1 := by omega
          have hfin : acc = gapF f t d l := by
            have h1 := HACC.out
            rw [List.drop_of_length_le (by have := HLL.out; omega)] at h1
            rw [HFIN2.out, ← h1]; simp [gapL]
          have hrd : RdW wr u7 acc := Rd.of_own hown
          have HF := Lib.hid hfin
          clear hfin hown
          go_wp2_with fail
          go_ret
          exact ⟨u7, rfl, by rw [← HF.out]; exact hrd, hb6.trans (hbk.mono hb6.size)⟩
end Go.Proofs.Ytjkncmhmmafmjaa
