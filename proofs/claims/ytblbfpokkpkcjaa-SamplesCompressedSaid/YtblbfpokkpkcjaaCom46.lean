import Derived.Test.YtblbfpokkpkcjaaCom26
import Derived.Test.YtblbfpokkpkcjaaCom05
import Derived.Test.YtblbfpokkpkcjaaCom04
/- The contract of Steps (package compress). No condition. -/

namespace Go.Proofs.Ytblbfpokkpkcjaa
open Go.RowKit
set_option linter.unusedVariables false
set_option linter.unusedSimpArgs false

def stpR (l : List Smp) : List Int := if serErr l = 0 then stpTo l l.length else []

set_option maxRecDepth 100000 in
set_option maxHeartbeats 4000000 in
theorem steps_any (v : Value) (l : List Smp) (w : World) (hR : RdS w 71 v l) :
    Calls Try.prog 29 #[v] w fun e w' => ∃ vr, e = .returned (.tuple #[vr, .int .i64 (serErr l)]) ∧ RdI w' vr (stpR l) ∧ Below w.heap.size w w' := by
  obtain ⟨pa, ca, rfl⟩ := hR.lenv
  have HR0 := Lib.hid hR
  have hVd : stpR l = if serErr l = 0 then stpTo l l.length else [] := rfl
  generalize stpR l = V at *
  have hsg := fun h : serErr l = 0 => (serErr_good h).1
  have hcs := checkSeries_any _ l w hR
  generalize serErr l = S at *
  have HVD := Lib.hid hVd
  have HCS := Lib.hid hcs
  clear hR hVd hcs
  go_enter Try.func29, Try.ntmps29
  go_wp2_with fail
  refine HCS.out.mono ?_
  rintro e w0 ⟨rfl, hbs⟩
  have HR1 := Lib.hid (show RdS w0 71 _ l from Rd.below HR0.out hbs)
  by_cases hS : S = 0
  · subst hS
    have hlong := hsg rfl
    have HS := Lib.hid (show V = stpTo l l.length by rw [HVD.out, if_pos rfl])
    go_wp2_with fail
    go_loopw [5, 15] (fun o i wr => ∃ j : Nat, j ≤ l.length ∧ i = .int .i64 (j : Int) ∧ StK w0 o (stpTo l j) wr) (fun _ i _ => l.length - (intOf i).toNat)
    case atStart => exact ⟨0, by omega, rfl, World.ownsRow_nil _ _ _ _, Below.refl _ _⟩
    case round =>
      obtain ⟨j, hj, rfl, hk⟩ := hrel
      by_cases hlt : j < l.length
      · have hl2 := stpTo_long l j
        have hRr : RdS wr _ _ l := HR1.out.below hk.bl (Nat.le_refl _)
        obtain ⟨b, off, c, hv, hc1, hc2, hblt, hcell⟩ := RdS.at_ hRr (by omega)
        cases hv
        unfold maxLen at hc2
        obtain ⟨c0, c1, c2⟩ := hcell j hlt
        obtain ⟨p0, p1, p2⟩ := hcell (j - 1) (by omega)
        have hst : stpTo l (j + 1) = if stpB l j = true then stpTo l j ++ [(j : Int)] else stpTo l j := rfl
        have hdx : stpB l j = decide (j = 0 ∨ j + 1 = l.length ∨ (atS l j).v ≠ (atS l (j - 1)).v ∨ (atS l j).q ≠ (atS l (j - 1)).q) := rfl
        generalize stpTo l j = out at *
        generalize atS l (j - 1) = x at *
        generalize atS l j = y at *
        generalize stpB l j = E at *
        have HDX := Lib.hid hdx
        have HST := Lib.hid hst
        have HK := Lib.hid hk
        have hb0r := hk.bl.size
        clear hdx hst hk hcell hRr
        go_upto_region 8 with fail
        go_cut [50] (fun s50 wx => s50 = .bool E ∧ ∃ m, wx = (wr.alloc (.cells #[.int .i64 y.t, .int .i64 y.v, .int .i64 y.q] 71)).drewN m)
        case first =>
          by_cases hj0 : j = 0
          · subst hj0
            have HE := Lib.hid (show E = true by rw [HDX.out]; simp)
            clear p0 p1 p2
            go_quiet (fail)
            go_wp2_with fail
            go_meet
            exact ⟨by rw [HE.out], _, rfl⟩
          · have hj0' : ((j : Int) == 0) = false := by simp; omega
            have hwr : IntKind.i64.wrap ((l.length : Int) - 1) = (l.length : Int) - 1 := IntWalk.i64_in _ (by omega)
            have hwj : IntKind.i64.wrap ((j : Int) - 1) = (j : Int) - 1 := IntWalk.i64_in _ (by omega)
            have i1 : (1 : Int) ≤ (j : Int) := by omega
            have i2 : (j : Int) - 1 < (l.length : Int) := by omega
            by_cases hje : j + 1 = l.length
            · have hje' : ((j : Int) == (l.length : Int) - 1) = true := by simp; omega
              have HE := Lib.hid (show E = true by rw [HDX.out]; simp [hje])
              clear hje hj0
              go_quiet (fail)
              go_wp2_with fail
              go_meet
              exact ⟨by rw [HE.out], _, rfl⟩
            · have hje' : ((j : Int) == (l.length : Int) - 1) = false := by simp; omega
              by_cases hv : y.v = x.v
              · have hv' : (y.v != x.v) = false := by simpa using hv
                by_cases hq : y.q = x.q
                · have hq' : (y.q != x.q) = false := by simpa using hq
                  have HE := Lib.hid (show E = false by rw [HDX.out]; simp [hj0, hje, hv, hq])
                  clear hje hj0 hv hq
                  go_quiet (fail)
                  go_wp2_with fail
                  go_meet
                  exact ⟨by rw [HE.out], _, rfl⟩
                · have hq' : (y.q != x.q) = true := by simpa using hq
                  have HE := Lib.hid (show E = true by rw [HDX.out]; simp [hq])
                  clear hje hj0 hv hq
                  go_quiet (fail)
                  go_wp2_with fail
                  go_meet
                  exact ⟨by rw [HE.out], _, rfl⟩
              · have hv' : (y.v != x.v) = true := by simpa using hv
                have HE := Lib.hid (show E = true by rw [HDX.out]; simp [hv])
                clear hje hj0 hv
                go_quiet (fail)
                go_wp2_with fail
                go_meet
                exact ⟨by rw [HE.out], _, rfl⟩
        case rest =>
          obtain ⟨rfl, m, rfl⟩ := hcut
          have hk2 := (HK.out.alloc (.cells #[.int .i64 y.t, .int .i64 y.v, .int .i64 y.q] 71)).drewN m
          generalize (wr.alloc (.cells #[.int .i64 y.t, .int .i64 y.v, .int .i64 y.q] 71)).drewN m = wm at *
          have HK2 := Lib.hid hk2
          clear hk2 HK
          cases E
          · have HR := Lib.hid (show stpTo l (j + 1) = out by rw [HST.out]; rfl)
            go_wp2_with fail
            go_roundw
            case rel => exact ⟨j + 1, by omega, by go_num, by rw [HR.out]; exact HK2.out⟩
            case measure => simp [intOf]; omega
          · have HR := Lib.hid (show stpTo l (j + 1) = out ++ [(j : Int)] by rw [HST.out]; rfl)
            have ho := HK2.out.alloc (.cells #[.int .i64 (j : Int)] 3)
            have HO := Lib.hid ho
            have hso := ho.bl.size
            clear ho
            go_wp2_with (at_builtin; go_loud (refine wpList_append_num rfl (.tmp 51) (.tmp 53) rfl w0.heap.size u5 out.length out rfl (by exact HO.out.own) wm.heap.size rfl (j : Int) (by exact Blk.new _ _ _) (by omega) (by exact hso) ?_); intro v1 wd hown1 hgrow1)
            have hkd := HO.out.grown _ hgrow1 hown1
            clear hown1 hgrow1
            go_roundw
            case rel => exact ⟨j + 1, by omega, by go_num, by rw [HR.out]; exact hkd⟩
            case measure => simp [intOf]; omega
      · obtain rfl : j = l.length := by omega
        go_wp2_with fail
        go_ret2
        exact ⟨_, rfl, by rw [HS.out]; exact Rd.of_own hk.own, hbs.trans (hk.bl.mono hbs.size)⟩
  · have hS' : (S != 0) = true := by simpa using hS
    have HS := Lib.hid (show V = [] by rw [HVD.out, if_neg hS])
    clear hS
    go_wp2_with fail
    go_ret2
    exact ⟨_, rfl, by rw [HS.out]; exact Rd.nil _ _ _, hbs⟩
end Go.Proofs.Ytblbfpokkpkcjaa

/- The contract of Odd (package logmake). -/

namespace Go.Proofs.Ytblbfpokkpkcjaa
open Go.RowKit
set_option linter.unusedVariables false
set_option linter.unusedSimpArgs false

set_option maxRecDepth 100000 in
set_option maxHeartbeats 1000000 in
theorem odd_went (w : World) (g : Nat) (L : List Int) (A : Option Addr) (cap k : Nat) (lo hi : Int) (hS : Strm w g L A cap k) (hk : k ≤ 900000000) (hl : -1000000000 ≤ lo) (hlh : lo ≤ hi) (hh : hi ≤ 100000000000) :
    Calls Try.prog 95 #[.pointer (some ⟨g, 0, none⟩), .int .i64 lo, .int .i64 hi] w fun e w' =>
      ∃ r : Int, e = .returned (.int .i64 r) ∧ (-1099511627776 ≤ r ∧ r ≤ 1099511627776) ∧ Went w g L A cap (k + 2) w' := by
  have hr := nxt_range L (k + 1) (hi - lo + 1) (by omega)
  go_enter Try.func95, Try.ntmps95
  go_wp2_with fail
  refine (flip_went _ g L A cap k 12 hS (by omega) (by omega)).mono ?_
  rintro e w1 ⟨rfl, hw1, hz1⟩
  by_cases hN : nxt L k 12 = 0
  · have hN' : (nxt L k 12 == 0) = true := by simpa using hN
    clear hN
    go_wp2_with fail
    refine (pick_new _ _ g L A cap (k + 1) [lo - 1, hi + 1, lo, hi, -1099511627776, 1099511627776] hw1.1 hz1.symm (by omega) (by simp)).mono ?_
    rintro e w2 ⟨rfl, hw2⟩
    have hm := pk_mem [lo - 1, hi + 1, lo, hi, -1099511627776, 1099511627776] L (k + 1) (by simp)
    simp only [List.mem_cons, List.not_mem_nil, or_false] at hm
    go_wp2_with fail
    go_ret
    exact ⟨_, rfl, by omega, hw2.1, hw1.2.trans hw2.2⟩
  · have hN' : (nxt L k 12 == 0) = false := by simpa using hN
    clear hN
    go_wp2_with fail
    refine (range_went _ g L A cap (k + 1) lo hi hw1.1 (by omega) (by omega) (by omega) (by omega)).mono ?_
    rintro e w2 ⟨rfl, hw2, _⟩
    go_wp2_with fail
    go_ret
    exact ⟨_, rfl, by omega, hw2.1, hw1.2.trans hw2.2⟩
end Go.Proofs.Ytblbfpokkpkcjaa
