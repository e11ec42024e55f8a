/- The contracts of eachValue, Scale and Limit (package sample). -/
import Derived.Test.YtjkncmhmmafmjaaClone
import Derived.Test.YtjkncmhmmafmjaaFac
namespace Go.Proofs.Ytjkncmhmmafmjaa
open Go.RowKit
set_option linter.unusedVariables false
set_option linter.unusedSimpArgs false

theorem own_below {w w' : World} {base : Nat} {e : TypeId} {size n : Nat} {v : Value} {xs : List Value} (h : w.ownsRow base e size v n xs) (hb : Below w.heap.size w w') : w'.ownsRow base e size v n xs :=
  own_keep h fun b _ _ hh => hb.block b (lt_of_heap hh)

def eachTo (F : Smp → Smp) (l : List Smp) (j : Nat) : List Smp := (l.take j).map F ++ l.drop j
theorem eachTo_length (F : Smp → Smp) (l : List Smp) (j : Nat) : (eachTo F l j).length = l.length := by simp [eachTo]; omega
theorem eachTo_at (F : Smp → Smp) (l : List Smp) (j : Nat) (h : j < l.length) (h' : j < (eachTo F l j).length) : (eachTo F l j)[j] = l[j] := by
  simp only [eachTo]
  rw [List.getElem_append_right (by simp; omega)]
  simp [Nat.min_eq_left (Nat.le_of_lt h)]
theorem eachTo_set (F : Smp → Smp) (l : List Smp) (j : Nat) (h : j < l.length) : (eachTo F l j).set j (F l[j]) = eachTo F l (j + 1) := by
  simp only [eachTo]
  rw [List.set_append_right _ _ (by simp; omega)]
  have e1 : j - ((l.take j).map F).length = 0 := by simp; omega
  rw [e1, List.drop_eq_getElem_cons h, List.set_cons_zero, List.take_succ_eq_append_getElem h, List.map_append, List.append_assoc]
  rfl
theorem eachTo_same (F : Smp → Smp) (l : List Smp) (j : Nat) (h : j < l.length) (hF : F l[j] = l[j]) : eachTo F l j = eachTo F l (j + 1) := by
  rw [← eachTo_set F l j h, hF]
  have h' : j < (eachTo F l j).length := by rw [eachTo_length]; exact h
  rw [← eachTo_at F l j h h', List.set_getElem_self]
theorem eachTo_all (F : Smp → Smp) (l : List Smp) : eachTo F l l.length = l.map F := by simp [eachTo]
theorem eachTo_none (F : Smp → Smp) (l : List Smp) : eachTo F l 0 = l := by simp [eachTo]

/-- f on what is not Bad. -/
def good (f : Smp → Smp) (x : Smp) : Smp := if x.q = 2 then x else f x

set_option maxRecDepth 100000 in
set_option maxHeartbeats 1000000 in
theorem eachValue_any (v : Value) (l : List Smp) (w : World) (fn : FuncId) (c1 c2 : Value) (f : Smp → Smp) (hR : RdS w 27 v l) (hlong : l.length ≤ 5000)
    (hcf : ∀ (args : Array Value) (w : World), (callFunc fn args).run Try.prog w = .ok (.enter fn args) w)
    (hf : ∀ (x : Smp) (w' : World), x ∈ l → x.q ≠ 2 → Below w.heap.size w w' → Calls Try.prog fn #[x.agg, c1, c2] w' fun e w'' => e = .returned (f x).agg ∧ Below w'.heap.size w' w'') :
    Calls Try.prog 72 #[v, .func (.func fn) #[] #[c1, c2]] w fun e w' => ∃ v', e = .returned v' ∧ w'.ownsRow w.heap.size 27 3 v' l.length (cellsOf (l.map (good f))) ∧ Below w.heap.size w w' := by
  have HFN := Lib.hid hf
  clear hf
  go_enter Try.func72, Try.ntmps72
  go_wp2_with fail
  refine (clone_any v l w hR (by omega)).mono ?_
  rintro e w1 ⟨v1, rfl, hown, hb1⟩
  rcases Nat.eq_zero_or_pos l.length with h0 | h0
  · obtain rfl := List.eq_nil_of_length_eq_zero h0
    obtain ⟨_, a, c, rfl, _, _, _⟩ := Rd.of_own hown
    go_wp2_with fail
    refine wp_loop_rounds 1 ?_
    rw [rounds_succ]
    go_wp2_with fail
    go_ret
    exact ⟨_, rfl, hown, hb1⟩
  · obtain ⟨g, cap, rfl, hg, hc1, hc2⟩ := own_form hown h0
    unfold maxLen at hc2
    go_wp2_with fail
    go_loopw [12] (fun i wr => ∃ j : Nat, j ≤ l.length ∧ i = .int .i64 (j : Int) ∧ wr.ownsRow w.heap.size 27 3 (.slice (some ⟨g, 0, none⟩) l.length cap) l.length (cellsOf (eachTo (good f) l j)) ∧ Below w.heap.size w wr) (fun i _ => l.length - (intOf i).toNat)
    case atStart => exact ⟨0, by omega, rfl, by rw [eachTo_none]; exact hown, hb1⟩
    case round =>
      obtain ⟨j, hj, rfl, hown, hwr⟩ := hrel
      by_cases hlt : j < l.length
      · obtain ⟨c0, c1', c2'⟩ := own_cells hown (eachTo_length _ _ _) j hlt
        rw [eachTo_at _ _ _ hlt] at c0 c1' c2'
        have hxm : l[j] ∈ l := List.getElem_mem hlt
        have hset := eachTo_set (good f) l j hlt
        have hsame := eachTo_same (good f) l j hlt
        have hgood : good f l[j] = if l[j].q = 2 then l[j] else f l[j] := rfl
        generalize l[j] = x at *
        have HSET := Lib.hid hset
        have HSAME := Lib.hid hsame
        have HG := Lib.hid hgood
        clear hset hsame hgood
        by_cases hq : x.q = 2
        · have hq' : (x.q != 2) = false := by simpa using hq
          have HQ := Lib.hid hq
          clear hq
          go_wp2_with fail
          go_roundw
          case rel =>
            refine ⟨j + 1, by omega, by go_num, ?_, hwr.alloc hwr.size _⟩
            rw [← HSAME.out (by rw [HG.out, if_pos HQ.out])]
            exact hown.alloc _
          case measure => simp [intOf]; omega
        · have hq' : (x.q != 2) = true := by simpa using hq
          have HQ := Lib.hid hq
          clear hq
          go_wp2_with fail
          refine (HFN.out x _ hxm HQ.out (hwr.alloc hwr.size _)).mono ?_
          rintro e w2 ⟨rfl, hb2⟩
          have hown2 := own_below (hown.alloc (.cells #[.int .i64 x.t, .int .i64 x.v, .int .i64 x.q] 27)) hb2
          have HL2 := Lib.hid (eachTo_length (good f) l j)
          obtain ⟨d0, d1, d2⟩ := own_cells hown2 HL2.out j hlt
          have f0 := hown2.frozenAt (j * 3)
          have f1 := hown2.frozenAt (j * 3 + 1)
          have f2 := hown2.frozenAt (j * 3 + 2)
          have hwr2 : Below w.heap.size w w2 := (hwr.alloc hwr.size _).trans (hb2.mono (by have := hwr.size; simp; omega))
          have hgx : good f x = f x := by rw [HG.out, if_neg HQ.out]
          generalize f x = y at *
          have HGX := Lib.hid hgx
          clear hgx hb2 hown
          unfold Smp.agg
          go_wp2_with fail
          go_roundw
          case rel =>
            refine ⟨j + 1, by omega, by go_num, ?_, by (repeat (refine Below.setCell ?_ hg _)); exact hwr2⟩
            have hs := HSET.out
            rw [HGX.out] at hs
            rw [← hs]
            have hl := HL2.out
            have := own_put (w := w2) (l := eachTo (good f) l j) (by rw [hl]; exact hown2) j (by rw [hl]; exact hlt) y
            rw [hl] at this
            exact this
          case measure => simp [intOf]; omega
      · obtain rfl : j = l.length := by omega
        rw [eachTo_all] at hown
        go_wp2_with fail
        go_ret
        exact ⟨_, rfl, hown, hwr⟩

theorem enter_scale (args : Array Value) (w : World) : (callFunc 73 args).run Try.prog w = .ok (.enter 73 args) w := by kernel_rfl
theorem enter_limit (args : Array Value) (w : World) : (callFunc 75 args).run Try.prog w = .ok (.enter 75 args) w := by kernel_rfl
end Go.Proofs.Ytjkncmhmmafmjaa
