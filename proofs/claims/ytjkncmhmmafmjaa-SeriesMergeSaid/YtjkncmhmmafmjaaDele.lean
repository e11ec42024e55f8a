/- The contract of slices.DeleteFunc at samples: on a row of the call's own. -/
import Derived.Test.YtjkncmhmmafmjaaDelf
namespace Go.Proofs.Ytjkncmhmmafmjaa
open Go.RowKit
set_option linter.unusedVariables false
set_option linter.unusedSimpArgs false

theorem own_rd {w : World} {g cap i : Nat} {row : List Smp} (h : ∃ cur : Array Value, w.heap[g]? = some (.cells cur 27 (0, 0)) ∧ ∀ j, j < i * 3 → cur[j]? = (cellsOf row)[j]?)
    (hi : i ≤ row.length) (hc : i ≤ cap) (hm : cap ≤ maxLen) (hpos : 0 < cap) : RdS w 27 (.slice (some ⟨g, 0, none⟩) i cap) (row.take i) := by
  obtain ⟨cur, h1, h2⟩ := h
  have hl : (row.take i).length = i := by simp; omega
  unfold RdS
  rw [hl]
  refine ⟨by rw [cellsOf_length, hl], some ⟨g, 0, none⟩, cap, rfl, hc, hm, fun _ => ⟨g, 0, cur, (0, 0), rfl, h1, fun j hj => ?_⟩⟩
  rw [Nat.zero_add, h2 j hj]
  have e : cellsOf row = cellsOf (row.take i) ++ cellsOf (row.drop i) := by rw [← cellsOf_append, List.take_append_drop]
  rw [e, List.getElem?_append_left (by rw [cellsOf_length, hl]; exact hj)]

set_option maxRecDepth 100000 in
set_option maxHeartbeats 4000000 in
theorem deleteFunc_any (v : Value) (l : List Smp) (w : World) (base : Nat) (fn : FuncId) (c1 : Value) (p : Smp → Bool) (hown : w.ownsRow base 27 3 v l.length (cellsOf l)) (hbase : base ≤ w.heap.size) (hlong : l.length ≤ 5000)
    (hcf : ∀ (args : Array Value) (w : World), (callFunc fn args).run Try.prog w = .ok (.enter fn args) w) (hp : AsksB base w fn #[c1] p) :
    Calls Try.prog 58 #[v, .func (.func fn) #[] #[c1]] w fun e w' => ∃ v', e = .returned v' ∧ RdS w' 27 v' (l.filter fun x => !p x) ∧ Below base w w' := by
  have hR : RdS w 27 v l := Rd.of_own hown
  have hidx := indexFunc_any v l w fn c1 p hR hlong hcf (fun x w' h => hp x w' (h.mono hbase))
  have HP := Lib.hid hp
  have HI := Lib.hid hidx
  have HR := Lib.hid hR
  clear hp hidx hR
  rcases idxF_spec p l 0 with ⟨e, hall⟩ | ⟨n, e, h0, h3, h4, h5⟩
  · rw [e] at HI
    have hfl := filter_all hall
    have HF := Lib.hid hfl
    clear e hall hfl
    go_enter Try.func58, Try.ntmps58
    go_wp2_with fail
    refine HI.out.mono ?_
    rintro e w1 ⟨rfl, hb1⟩
    go_wp2_with fail
    go_ret
    exact ⟨_, rfl, by rw [HF.out]; exact Rd.below HR.out hb1, hb1.mono hbase⟩
  · rw [e] at HI
    have hst := half_start p l n h3 h4 h5
    have HST := Lib.hid hst
    obtain ⟨g, cap, rfl, hg, hc1, hc2⟩ := own_form hown (by omega)
    have hc2' := hc2
    unfold maxLen at hc2
    clear e h0 h4 h5 hst
    have hne : ((n : Int) == -1) = false := by rw [beq_eq_false_iff_ne]; omega
    go_enter Try.func58, Try.ntmps58
    go_wp2_with fail
    refine HI.out.mono ?_
    rintro e w1 ⟨rfl, hb1⟩
    have hown1 := own_below hown hb1
    have hb1' := hb1.mono hbase
    clear hb1
    go_wp2_with fail
    go_loopw [5, 6] (fun si sj wr => ∃ (i j : Nat) (row : List Smp), si = .int .i64 (i : Int) ∧ sj = .int .i64 (j : Int) ∧ i < j ∧ j ≤ l.length ∧ Half p l row i j ∧ wr.ownsRow base 27 3 (.slice (some ⟨g, 0, none⟩) l.length cap) l.length (cellsOf row) ∧ Below base w wr) (fun _ sj _ => l.length - (intOf sj).toNat)
    case atStart => exact ⟨n, n + 1, l, rfl, by go_num, by omega, by omega, HST.out, hown1, hb1'⟩
    case round =>
      clear hown hown1 hb1'
      obtain ⟨i, j, row, rfl, rfl, hij, hj, hH, hown, hbr⟩ := hrel
      have HH := Lib.hid hH
      clear hH
      by_cases hlt : j < l.length
      · have hrl : row.length = l.length := HH.out.1
        have hat := half_at HH.out hlt
        obtain ⟨c0, c1', c2⟩ := own_cells hown hrl j hlt
        have hge : row[j]'(by omega) = atS l j := by
          have e := hat; rw [List.getElem?_eq_getElem (by omega)] at e; exact Option.some.inj e
        rw [hge] at c0 c1' c2
        have f0 := hown.frozenAt (i * 3)
        have f1 := hown.frozenAt (i * 3 + 1)
        have f2 := hown.frozenAt (i * 3 + 2)
        have hskip := fun hpp : p (atS l j) = true => half_skip HH.out hlt hpp
        have hput := fun hpp : p (atS l j) = false => half_put HH.out hlt hpp
        have hgr : g < wr.heap.size := (hown.lt g rfl).2
        generalize atS l j = x at *
        have HRL := Lib.hid hrl
        have HSK := Lib.hid hskip
        have HPU := Lib.hid hput
        clear hat hge hskip hput hrl
        go_wp2_with fail
        refine (HP.out x _ (hbr.alloc (by have := hbr.size; omega) _)).mono ?_
        rintro e w2 ⟨rfl, hb2⟩
        have hown2 := own_below (hown.alloc (.cells #[.int .i64 x.t, .int .i64 x.v, .int .i64 x.q] 27)) hb2
        have hbr2 : Below base w w2 := (hbr.alloc (by have := hbr.size; omega) _).trans (hb2.mono (by have := hbr.size; simp; omega))
        have hB : Blk w2 wr.heap.size 27 #[.int .i64 x.t, .int .i64 x.v, .int .i64 x.q] := (Blk.new wr _ _).below hb2 (by simp)
        have d0 : w2.cell? ⟨wr.heap.size, 0, none⟩ = some (.int .i64 x.t) := hB.cell 0
        have d1 : w2.cell? ⟨wr.heap.size, 1, none⟩ = some (.int .i64 x.v) := hB.cell 1
        have d2 : w2.cell? ⟨wr.heap.size, 2, none⟩ = some (.int .i64 x.q) := hB.cell 2
        obtain ⟨px, hpx⟩ : ∃ b, b = p x := ⟨_, rfl⟩
        have HPX := Lib.hid hpx
        rw [← hpx]
        clear hb2 hown hB c0 c1' c2 hbr hpx f0 f1 f2
        cases px
        · have g0 := hown2.frozenAt (i * 3)
          have g1 := hown2.frozenAt (i * 3 + 1)
          have g2 := hown2.frozenAt (i * 3 + 2)
          obtain ⟨k0, k1, k2⟩ := own_cells hown2 HRL.out i (by omega)
          generalize row[i]'(by have := HRL.out; omega) = y at *
          go_wp2_with fail
          go_roundw
          case rel =>
            refine ⟨i + 1, j + 1, row.set i x, by go_num, by go_num, by omega, by omega, HPU.out HPX.out.symm, ?_, by (repeat (refine Below.setCell ?_ hg _)); exact hbr2⟩
            have hl := HRL.out
            have := own_put (w := w2) (l := row) (by rw [hl]; exact hown2) i (by rw [hl]; omega) x
            rw [hl] at this
            exact this
          case measure => simp [intOf]; omega
        · go_wp2_with fail
          go_roundw
          case rel => exact ⟨i, j + 1, row, rfl, by go_num, by omega, by omega, HSK.out HPX.out.symm, hown2, hbr2⟩
          case measure => simp [intOf]; omega
      · obtain rfl : j = l.length := by omega
        have hrl : row.length = l.length := HH.out.1
        have HRL := Lib.hid hrl
        have hend := half_end HH.out
        have HE := Lib.hid hend
        have hcells : ∃ cur : Array Value, wr.heap[g]? = some (.cells cur 27 (0, 0)) ∧ l.length * 3 ≤ cur.size ∧ cur.toList.take (l.length * 3) = cellsOf row := by
          obtain ⟨_, h | ⟨g', cap', cur, hv, hb, hh, hn, hm, hs, hx⟩⟩ := hown
          · exact absurd h.2 (by omega)
          · simp only [Value.slice.injEq, Option.some.injEq, Addr.mk.injEq, and_true, true_and] at hv
            obtain ⟨rfl, rfl⟩ := hv
            exact ⟨cur, hh, by omega, hx⟩
        obtain ⟨cur, hh, hs, hx⟩ := hcells
        obtain ⟨w2, hr, ⟨cur', hh', hsame⟩, hgrow⟩ := run_clear_smp wr 0 g i (l.length - i) (cap - i) cur hh (by omega) (by omega)
        have hb2 := hbr.trans (below_grown hown (by have := hbr.size; omega) hgrow)
        have hfin : RdS w2 27 (.slice (some ⟨g, 0, none⟩) i cap) (l.filter fun x => !p x) := by
          rw [← hend]
          refine own_rd ⟨cur', hh', fun j hj => ?_⟩ (by omega) (by omega) hc2' (by omega)
          rw [hsame j hj, ← hx, List.getElem?_take_of_lt (by omega)]
          simp
        have HF := Lib.hid hfin
        clear hrl hend hh hs hx hh' hsame hgrow hfin hown
        go_wp2_with fail
        go_ret
        exact ⟨_, rfl, HF.out, hb2⟩
end Go.Proofs.Ytjkncmhmmafmjaa
