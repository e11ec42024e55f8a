import Derived.Test.YtblbfpokkpkcjaaCom46
import Derived.Test.YtblbfpokkpkcjaaCom18
/- The contracts of KeptList and AMoment (package logmake): some indices, some moment; no more is asked of them. -/

namespace Go.Proofs.Ytblbfpokkpkcjaa
open Go.RowKit
set_option linter.unusedVariables false
set_option linter.unusedSimpArgs false

set_option maxRecDepth 100000 in
set_option maxHeartbeats 1000000 in
theorem aMoment_went (w : World) (g : Nat) (L : List Int) (A : Option Addr) (cap k : Nat) (hS : Strm w g L A cap k) (hk : k ≤ 900000000) :
    Calls Try.prog 35 #[.pointer (some ⟨g, 0, none⟩)] w fun e w' => ∃ r : Int, e = .returned (.int .i64 r) ∧ (-1 ≤ r ∧ r ≤ 345686400000) ∧ Went w g L A cap (k + 2) w' := by
  go_enter Try.func35, Try.ntmps35
  go_wp2_with fail
  refine (pick_new _ _ g L A cap k [-1, 345686400000] hS rfl (by omega) (by simp)).mono ?_
  rintro e w1 ⟨rfl, hw1⟩
  have hm := pk_mem [-1, 345686400000] L k (by simp)
  simp only [List.mem_cons, List.not_mem_nil, or_false] at hm
  generalize pk [-1, 345686400000] L k = a at *
  go_wp2_with fail
  refine (pick_new _ _ g L A cap (k + 1) [0, 1, 5, 12, 40, 41, 60, 100, 200, a] hw1.1 rfl (by omega) (by simp)).mono ?_
  rintro e w2 ⟨rfl, hw2⟩
  have hm2 := pk_mem [0, 1, 5, 12, 40, 41, 60, 100, 200, a] L (k + 1) (by simp)
  simp only [List.mem_cons, List.not_mem_nil, or_false] at hm2
  generalize pk [0, 1, 5, 12, 40, 41, 60, 100, 200, a] L (k + 1) = r at *
  have hr : -1 ≤ r ∧ r ≤ 345686400000 := by omega
  clear hm2
  go_wp2_with fail
  go_ret
  exact ⟨_, rfl, hr, hw2.1, hw1.2.trans hw2.2⟩

/-- What is made at last. -/
def KListEnd (w : World) (g : Nat) (L : List Int) (A : Option Addr) (cap k n : Nat) (v : Value) (w' : World) : Prop :=
  ∃ (ks : List Int) (k' : Nat), w'.ownsRow w.heap.size 3 1 v ks.length (ks.map (Value.int .i64)) ∧ ks.length ≤ n + 1 ∧ k' ≤ k + 10 + n ∧ Went w g L A cap k' w'

set_option maxRecDepth 100000 in
set_option maxHeartbeats 4000000 in
theorem keptList_went (w : World) (g : Nat) (L : List Int) (A : Option Addr) (cap k : Nat) (v : Value) (l : List Smp) (hS : Strm w g L A cap k) (hR : RdS w 71 v l) (hk : k ≤ 700000000) (hm : l.length ≤ 1000) :
    Calls Try.prog 25 #[.pointer (some ⟨g, 0, none⟩), v] w fun e w' => ∃ vr, e = .returned vr ∧ KListEnd w g L A cap k l.length vr w' := by
  obtain ⟨pa, ca, rfl⟩ := hR.lenv
  have hlt0 := hS.lt
  clear hR
  go_enter Try.func25, Try.ntmps25
  go_wp2_with fail
  go_loopw [5, 10] (fun o i wr => ∃ (j : Nat) (ks : List Int) (k' : Nat), j ≤ l.length ∧ i = .int .i64 (j : Int) ∧ ks.length ≤ j ∧ k' ≤ k + j ∧ wr.ownsRow w.heap.size 3 1 o ks.length (ks.map (Value.int .i64)) ∧ Went w g L A cap k' wr) (fun _ i _ => l.length - (intOf i).toNat)
  case atStart => exact ⟨0, [], k, by omega, rfl, by simp, by omega, World.ownsRow_nil _ _ _ _, hS, But.refl _ _⟩
  case round =>
    obtain ⟨j, ks, k', hj, rfl, hkl, hk', hown, hwr⟩ := hrel
    have hszr := hwr.2.size
    by_cases hlt : j < l.length
    · by_cases hj0 : j = 0
      · have hj0' : ((j : Int) == 0) = true := by simp; omega
        clear hj0
        have ho := hown.alloc (.cells #[.int .i64 (j : Int)] 3)
        have HO := Lib.hid ho
        have hsw := hwr.2.size
        clear ho
        go_wp2_with (at_builtin; go_loud (refine wpList_append_num rfl (.tmp 27) (.tmp 29) rfl w.heap.size u5 ks.length ks rfl (by exact HO.out) wr.heap.size rfl (j : Int) (by exact Blk.new wr _ _) (by omega) (by simp; omega) ?_); intro v1 wd hown1 hgrow1)
        have hwd : Went w g L A cap k' wd := hwr.below hlt0 (((Below.refl _ _).alloc hsw _).trans (below_grown HO.out (by simp; omega) hgrow1))
        clear hgrow1
        go_roundw
        case rel => exact ⟨j + 1, ks ++ [(j : Int)], k', by omega, by go_num, by simp; omega, by omega, by simpa using hown1, hwd⟩
        case measure => simp [intOf]; omega
      · have hj0' : ((j : Int) == 0) = false := by simp; omega
        by_cases hje : j + 1 = l.length
        · have hje' : ((j : Int) == (l.length : Int) - 1) = true := by simp; omega
          have ho := hown.alloc (.cells #[.int .i64 (j : Int)] 3)
          have HO := Lib.hid ho
          have hsw := hwr.2.size
          clear ho
          go_wp2_with (at_builtin; go_loud (refine wpList_append_num rfl (.tmp 27) (.tmp 29) rfl w.heap.size u5 ks.length ks rfl (by exact HO.out) wr.heap.size rfl (j : Int) (by exact Blk.new wr _ _) (by omega) (by simp; omega) ?_); intro v1 wd hown1 hgrow1)
          have hwd : Went w g L A cap k' wd := hwr.below hlt0 (((Below.refl _ _).alloc hsw _).trans (below_grown HO.out (by simp; omega) hgrow1))
          clear hgrow1
          go_roundw
          case rel => exact ⟨j + 1, ks ++ [(j : Int)], k', by omega, by go_num, by simp; omega, by omega, by simpa using hown1, hwd⟩
          case measure => simp [intOf]; omega
        · have hje' : ((j : Int) == (l.length : Int) - 1) = false := by simp; omega
          go_wp2_with fail
          refine (flip_went _ g L A cap k' 3 hwr.1 (by omega) (by omega)).mono ?_
          rintro e wf ⟨rfl, hwf, hzf⟩
          clear hzf
          have hownf := own_but hwr.1 (by decide) hown hwf.2
          have hwf' : Went w g L A cap (k' + 1) wf := ⟨hwf.1, hwr.2.trans hwf.2⟩
          clear hwf hown hwr hszr
          by_cases hF : nxt L k' 3 = 0
          · have hF' : (nxt L k' 3 == 0) = true := by simpa using hF
            clear hF
            go_wp2_with fail
            go_roundw
            case rel => exact ⟨j + 1, ks, k' + 1, by omega, by go_num, by omega, by omega, hownf, hwf'⟩
            case measure => simp [intOf]; omega
          · have hF' : (nxt L k' 3 == 0) = false := by simpa using hF
            clear hF
            have ho := hownf.alloc (.cells #[.int .i64 (j : Int)] 3)
            have HO := Lib.hid ho
            have hsw := hwf'.2.size
            clear ho
            go_wp2_with (at_builtin; go_loud (refine wpList_append_num rfl (.tmp 27) (.tmp 29) rfl w.heap.size u5 ks.length ks rfl (by exact HO.out) wf.heap.size rfl (j : Int) (by exact Blk.new wf _ _) (by omega) (by simp; omega) ?_); intro v1 wd hown1 hgrow1)
            have hwd : Went w g L A cap (k' + 1) wd := hwf'.below hlt0 (((Below.refl _ _).alloc hsw _).trans (below_grown HO.out (by simp; omega) hgrow1))
            clear hgrow1
            go_roundw
            case rel => exact ⟨j + 1, ks ++ [(j : Int)], (k' + 1), by omega, by go_num, by simp; omega, by omega, by simpa using hown1, hwd⟩
            case measure => simp [intOf]; omega
    · obtain rfl : j = l.length := by omega
      by_cases hk0 : ks.length = 0
      · obtain rfl := List.eq_nil_of_length_eq_zero hk0
        rcases hown.2 with ⟨rfl, _⟩ | ⟨g', cap', cur, rfl, _, _⟩
        · go_wp2_with fail
          refine (flip_went _ g L A cap (k') 20 hwr.1 (by omega) (by omega)).mono ?_
          rintro e wq ⟨rfl, hwq, hzq⟩
          clear hzq
          have hownq := own_but hwr.1 (by decide) hown hwq.2
          have hwq' : Went w g L A cap (k' + 1) wq := ⟨hwq.1, hwr.2.trans hwq.2⟩
          clear hwq
          have hsw := hwq'.2.size
          by_cases hF3 : nxt L (k') 20 = 0
          · have hF3' : (nxt L (k') 20 == 0) = true := by simpa using hF3
            clear hF3
            have ho := hownq.alloc (.cells #[.int .i64 ((l.length : Int) - 1)] 3)
            have HO := Lib.hid ho
            clear ho
            go_wp2_with (at_builtin; go_loud (refine wpList_append_num rfl (.tmp 57) (.tmp 61) rfl w.heap.size _ _ _ rfl (by exact HO.out) wq.heap.size rfl ((l.length : Int) - 1) (by exact Blk.new wq _ _) (by omega) (by simp; omega) ?_); intro v1 wd hown1 hgrow1)
            have hwd : Went w g L A cap (k' + 1) wd := hwq'.below hlt0 (((Below.refl _ _).alloc hsw _).trans (below_grown HO.out (by simp; omega) hgrow1))
            clear hgrow1
            go_ret
            exact ⟨_, rfl, [] ++ [(l.length : Int) - 1], k' + 1, by simpa using hown1, by first | (simp; omega) | simp, by omega, hwd⟩
          · have hF3' : (nxt L (k') 20 == 0) = false := by simpa using hF3
            clear hF3
            go_wp2_with fail
            go_ret
            exact ⟨_, rfl, [], k' + 1, by simpa using hownq, by first | omega | simp | (simp; omega), by omega, hwq'⟩
        · go_wp2_with fail
          refine (flip_went _ g L A cap (k') 20 hwr.1 (by omega) (by omega)).mono ?_
          rintro e wq ⟨rfl, hwq, hzq⟩
          clear hzq
          have hownq := own_but hwr.1 (by decide) hown hwq.2
          have hwq' : Went w g L A cap (k' + 1) wq := ⟨hwq.1, hwr.2.trans hwq.2⟩
          clear hwq
          have hsw := hwq'.2.size
          by_cases hF3 : nxt L (k') 20 = 0
          · have hF3' : (nxt L (k') 20 == 0) = true := by simpa using hF3
            clear hF3
            have ho := hownq.alloc (.cells #[.int .i64 ((l.length : Int) - 1)] 3)
            have HO := Lib.hid ho
            clear ho
            go_wp2_with (at_builtin; go_loud (refine wpList_append_num rfl (.tmp 57) (.tmp 61) rfl w.heap.size _ _ _ rfl (by exact HO.out) wq.heap.size rfl ((l.length : Int) - 1) (by exact Blk.new wq _ _) (by omega) (by simp; omega) ?_); intro v1 wd hown1 hgrow1)
            have hwd : Went w g L A cap (k' + 1) wd := hwq'.below hlt0 (((Below.refl _ _).alloc hsw _).trans (below_grown HO.out (by simp; omega) hgrow1))
            clear hgrow1
            go_ret
            exact ⟨_, rfl, [] ++ [(l.length : Int) - 1], k' + 1, by simpa using hown1, by first | (simp; omega) | simp, by omega, hwd⟩
          · have hF3' : (nxt L (k') 20 == 0) = false := by simpa using hF3
            clear hF3
            go_wp2_with fail
            go_ret
            exact ⟨_, rfl, [], k' + 1, by simpa using hownq, by first | omega | simp | (simp; omega), by omega, hwq'⟩
      · obtain ⟨g1, cap1, rfl, hg1, hc1, hc2⟩ := own_form hown (by omega)
        have hk1 : 0 < ks.length := by omega
        clear hk0
        go_wp2_with fail
        refine (flip_went _ g L A cap k' 12 hwr.1 (by omega) (by omega)).mono ?_
        rintro e w4 ⟨rfl, hw4, hz4⟩
        clear hz4
        have hown4 := own_but hwr.1 (by decide) hown hw4.2
        have hw4' : Went w g L A cap (k' + 1) w4 := ⟨hw4.1, hwr.2.trans hw4.2⟩
        clear hown hwr hw4
        by_cases hF : nxt L k' 12 = 0
        · have hF' : (nxt L k' 12 == 0) = true := by simpa using hF
          clear hF
          have hr := nxt_range L (k' + 1) ks.length (by omega)
          go_wp2_with fail
          refine (next_went _ g L A cap (k' + 1) ks.length hw4'.1 (by omega) (by omega)).mono ?_
          rintro e w5 ⟨rfl, hw5, hz5⟩
          clear hz5
          have hown5 := own_but hw4'.1 (by decide) hown4 hw5.2
          have hw5' : Went w g L A cap (k' + 2) w5 := ⟨hw5.1, hw4'.2.trans hw5.2⟩
          clear hown4 hw4' hw5
          have hin : ∃ n : Nat, nxt L (k' + 1) ks.length = (n : Int) ∧ n < ks.length := ⟨(nxt L (k' + 1) ks.length).toNat, by omega, by omega⟩
          obtain ⟨n, hnx, hnj⟩ := hin
          generalize nxt L (k' + 1) ks.length = nn at *
          subst hnx
          have i1 : (0 : Int) ≤ (n : Int) := by omega
          have i2 : (n : Int) < (ks.length : Int) := by omega
          have c0 : w5.cell? ⟨g1, n, none⟩ = some (.int .i64 ks[n]) := by rw [hown5.cellAt _ (by omega)]; simp [hnj]
          generalize ks[n] = x at *
          clear hr
          go_wp2_with fail
          refine (pick_new _ _ g L A cap (k' + 2) [x, -1, (l.length : Int), 0] hw5'.1 rfl (by omega) (by simp)).mono ?_
          rintro e w6 ⟨rfl, hw6⟩
          have hown6 := own_but hw5'.1 (by decide) hown5 hw6.2
          have hw6' : Went w g L A cap (k' + 3) w6 := ⟨hw6.1, hw5'.2.trans hw6.2⟩
          generalize pk [x, -1, (l.length : Int), 0] L (k' + 2) = r at *
          have d0 : ∃ z, w6.cell? ⟨g1, n, none⟩ = some z := by rw [hown6.cellAt _ (by omega)]; exact ⟨_, List.getElem?_eq_getElem (by simpa using hnj)⟩
          obtain ⟨z, d0⟩ := d0
          have f0 := hown6.frozenAt n
          have hown7 : (w6.setCell ⟨g1, n, none⟩ (.int .i64 r)).ownsRow w.heap.size 3 1 (.slice (some ⟨g1, 0, none⟩) (ks.set n r).length cap1) (ks.set n r).length ((ks.set n r).map (Value.int .i64)) := by
            have h := (hown6.stored n (.int .i64 r)).1
            rw [List.length_set, List.map_set]
            exact h
          have hw7' : Went w g L A cap (k' + 3) (w6.setCell ⟨g1, n, none⟩ (.int .i64 r)) := hw6'.below hlt0 ((Below.refl w.heap.size w6).setCell hg1 _)
          have hsl : (ks.set n r).length = ks.length := List.length_set
          generalize hks : ks.set n r = ks2 at *
          clear hw6 hown5 hw5' c0 hown6 hw6' hks
          go_wp2_with fail
          generalize w6.setCell ⟨g1, n, none⟩ (.int .i64 r) = w7 at *
          rw [hsl] at hown7
          refine (flip_went _ g L A cap (k' + 3) 20 hw7'.1 (by omega) (by omega)).mono ?_
          rintro e wq ⟨rfl, hwq, hzq⟩
          clear hzq
          have hownq := own_but hw7'.1 (by decide) hown7 hwq.2
          have hwq' : Went w g L A cap (k' + 3 + 1) wq := ⟨hwq.1, hw7'.2.trans hwq.2⟩
          clear hwq
          have hsw := hwq'.2.size
          by_cases hF3 : nxt L (k' + 3) 20 = 0
          · have hF3' : (nxt L (k' + 3) 20 == 0) = true := by simpa using hF3
            clear hF3
            have ho := hownq.alloc (.cells #[.int .i64 ((l.length : Int) - 1)] 3)
            have HO := Lib.hid ho
            clear ho
            go_wp2_with (at_builtin; go_loud (refine wpList_append_num rfl (.tmp 57) (.tmp 61) rfl w.heap.size _ _ _ rfl (by exact HO.out) wq.heap.size rfl ((l.length : Int) - 1) (by exact Blk.new wq _ _) (by omega) (by simp; omega) ?_); intro v1 wd hown1 hgrow1)
            have hwd : Went w g L A cap (k' + 3 + 1) wd := hwq'.below hlt0 (((Below.refl _ _).alloc hsw _).trans (below_grown HO.out (by simp; omega) hgrow1))
            clear hgrow1
            go_ret
            exact ⟨_, rfl, ks2 ++ [(l.length : Int) - 1], k' + 3 + 1, by simpa [hsl] using hown1, by first | (simp; omega) | simp, by omega, hwd⟩
          · have hF3' : (nxt L (k' + 3) 20 == 0) = false := by simpa using hF3
            clear hF3
            go_wp2_with fail
            go_ret
            exact ⟨_, rfl, ks2, k' + 3 + 1, by simpa [hsl] using hownq, by first | omega | simp | (simp; omega), by omega, hwq'⟩
        · have hF' : (nxt L k' 12 == 0) = false := by simpa using hF
          clear hF
          go_wp2_with fail
          refine (flip_went _ g L A cap (k' + 1) 20 hw4'.1 (by omega) (by omega)).mono ?_
          rintro e wq ⟨rfl, hwq, hzq⟩
          clear hzq
          have hownq := own_but hw4'.1 (by decide) hown4 hwq.2
          have hwq' : Went w g L A cap (k' + 1 + 1) wq := ⟨hwq.1, hw4'.2.trans hwq.2⟩
          clear hwq
          have hsw := hwq'.2.size
          by_cases hF3 : nxt L (k' + 1) 20 = 0
          · have hF3' : (nxt L (k' + 1) 20 == 0) = true := by simpa using hF3
            clear hF3
            have ho := hownq.alloc (.cells #[.int .i64 ((l.length : Int) - 1)] 3)
            have HO := Lib.hid ho
            clear ho
            go_wp2_with (at_builtin; go_loud (refine wpList_append_num rfl (.tmp 57) (.tmp 61) rfl w.heap.size _ _ _ rfl (by exact HO.out) wq.heap.size rfl ((l.length : Int) - 1) (by exact Blk.new wq _ _) (by omega) (by simp; omega) ?_); intro v1 wd hown1 hgrow1)
            have hwd : Went w g L A cap (k' + 1 + 1) wd := hwq'.below hlt0 (((Below.refl _ _).alloc hsw _).trans (below_grown HO.out (by simp; omega) hgrow1))
            clear hgrow1
            go_ret
            exact ⟨_, rfl, ks ++ [(l.length : Int) - 1], k' + 1 + 1, by simpa using hown1, by first | (simp; omega) | simp, by omega, hwd⟩
          · have hF3' : (nxt L (k' + 1) 20 == 0) = false := by simpa using hF3
            clear hF3
            go_wp2_with fail
            go_ret
            exact ⟨_, rfl, ks, k' + 1 + 1, by simpa using hownq, by first | omega | simp | (simp; omega), by omega, hwq'⟩
end Go.Proofs.Ytblbfpokkpkcjaa
