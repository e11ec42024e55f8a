import Derived.Test.YtblbfpokkpkcjaaCom17
import Derived.Test.YtblbfpokkpkcjaaCom06
import Derived.Deep.DeepCutAuto
import Derived.Test.YtblbfpokkpkcjaaCom19
import Derived.Test.YtblbfpokkpkcjaaCom20
import Derived.Test.YtblbfpokkpkcjaaCom25
/- The steps of a series (reference): mathematics, and the walk of StepsOf. No condition beyond the contract's. -/

namespace Go.Proofs.Ytblbfpokkpkcjaa
open Go.RowKit
set_option linter.unusedVariables false
set_option linter.unusedSimpArgs false

/-- The sample j begins or ends the series, or differs from the one before. -/
def stpB (l : List Smp) (j : Nat) : Bool := decide (j = 0 ∨ j + 1 = l.length ∨ (atS l j).v ≠ (atS l (j - 1)).v ∨ (atS l j).q ≠ (atS l (j - 1)).q)
def stpTo (l : List Smp) : Nat → List Int
  | 0 => []
  | j + 1 => if stpB l j = true then stpTo l j ++ [(j : Int)] else stpTo l j
theorem stpTo_long (l : List Smp) (j : Nat) : (stpTo l j).length ≤ j := by
  induction j with
  | zero => simp [stpTo]
  | succ j ih =>
    rw [show stpTo l (j + 1) = if stpB l j = true then stpTo l j ++ [(j : Int)] else stpTo l j from rfl]
    split
    · simp; omega
    · omega

structure StK (w1 : World) (o : Value) (out : List Int) (w : World) : Prop where
  own : w.ownsRow w1.heap.size 3 1 o out.length (out.map (Value.int .i64))
  bl : Below w1.heap.size w1 w
theorem StK.step {w1 w w' : World} {o : Value} {out : List Int} (h : StK w1 o out w) (hb : Below w.heap.size w w') : StK w1 o out w' :=
  ⟨own_keep h.own fun b _ _ hh => hb.block b (lt_of_heap hh), h.bl.trans (hb.mono h.bl.size)⟩
theorem StK.alloc {w1 w : World} {o : Value} {out : List Int} (h : StK w1 o out w) (x : Obj) : StK w1 o out (w.alloc x) := h.step ((Below.refl _ _).alloc (Nat.le_refl _) _)
theorem StK.drewN {w1 w : World} {o : Value} {out : List Int} (h : StK w1 o out w) (m : Nat) : StK w1 o out (w.drewN m) :=
  h.step (show Below w.heap.size w (w.drewN m) from ⟨rfl, rfl, rfl, Nat.le_refl _, fun _ _ => rfl⟩)
theorem StK.grown {w1 w w' : World} {o o' : Value} {out : List Int} (h : StK w1 o out w) (x : Int) (hg : w.grownBy w' o.ownBlock) (ho : w'.ownsRow w1.heap.size 3 1 o' (out.length + 1) ((out ++ [x]).map (Value.int .i64))) : StK w1 o' (out ++ [x]) w' :=
  ⟨by simpa using ho, h.bl.trans (below_grown h.own h.bl.size hg)⟩

set_option maxRecDepth 100000 in
set_option maxHeartbeats 4000000 in
theorem stepsOf_any (v : Value) (l : List Smp) (w : World) (hR : RdS w 71 v l) (hlong : l.length ≤ 5000) :
    Calls Try.prog 30 #[v] w fun e w' => ∃ vr, e = .returned vr ∧ RdI w' vr (stpTo l l.length) ∧ Below w.heap.size w w' := by
  obtain ⟨pa, ca, rfl⟩ := hR.lenv
  have HR1 := Lib.hid hR
  go_enter Try.func30, Try.ntmps30
  go_wp2_with fail
  clear hR
  go_loopw [3, 8] (fun o i wr => ∃ j : Nat, j ≤ l.length ∧ i = .int .i64 (j : Int) ∧ StK w o (stpTo l j) wr) (fun _ i _ => l.length - (intOf i).toNat)
  case atStart => exact ⟨0, by omega, rfl, World.ownsRow_nil _ _ _ _, Below.refl _ _⟩
  case round =>
    obtain ⟨j, hj, rfl, hk⟩ := hrel
    by_cases hlt : j < l.length
    · have hl2 := stpTo_long l j
      have hRr : RdS wr _ _ l := HR1.out.below hk.bl (Nat.le_refl _)
      obtain ⟨b, off, c, hv, hc1, hc2, hblt, hcell⟩ := RdS.at_ hRr (by omega)
      cases hv
      unfold maxLen at hc2
      obtain ⟨c0, c1, c2⟩ := hcell j hlt
      obtain ⟨p0, p1, p2⟩ := hcell (j - 1) (by omega)
      have hst : stpTo l (j + 1) = if stpB l j = true then stpTo l j ++ [(j : Int)] else stpTo l j := rfl
      have hdx : stpB l j = decide (j = 0 ∨ j + 1 = l.length ∨ (atS l j).v ≠ (atS l (j - 1)).v ∨ (atS l j).q ≠ (atS l (j - 1)).q) := rfl
      generalize stpTo l j = out at *
      generalize atS l (j - 1) = x at *
      generalize atS l j = y at *
      generalize stpB l j = E at *
      have HDX := Lib.hid hdx
      have HST := Lib.hid hst
      have HK := Lib.hid hk
      have hb0r := hk.bl.size
      clear hdx hst hk hcell hRr
      go_upto_region 5 with fail
      go_cut [43] (fun s43 wx => s43 = .bool E ∧ ∃ m, wx = (wr.alloc (.cells #[.int .i64 y.t, .int .i64 y.v, .int .i64 y.q] 71)).drewN m)
      case first =>
        by_cases hj0 : j = 0
        · subst hj0
          have HE := Lib.hid (show E = true by rw [HDX.out]; simp)
          clear p0 p1 p2
          go_quiet (fail)
          go_wp2_with fail
          go_meet
          exact ⟨by rw [HE.out], _, rfl⟩
        · have hj0' : ((j : Int) == 0) = false := by simp; omega
          have hwr : IntKind.i64.wrap ((l.length : Int) - 1) = (l.length : Int) - 1 := IntWalk.i64_in _ (by omega)
          have hwj : IntKind.i64.wrap ((j : Int) - 1) = (j : Int) - 1 := IntWalk.i64_in _ (by omega)
          have i1 : (1 : Int) ≤ (j : Int) := by omega
          have i2 : (j : Int) - 1 < (l.length : Int) := by omega
          by_cases hje : j + 1 = l.length
          · have hje' : ((j : Int) == (l.length : Int) - 1) = true := by simp; omega
            have HE := Lib.hid (show E = true by rw [HDX.out]; simp [hje])
            clear hje hj0
            go_quiet (fail)
            go_wp2_with fail
            go_meet
            exact ⟨by rw [HE.out], _, rfl⟩
          · have hje' : ((j : Int) == (l.length : Int) - 1) = false := by simp; omega
            by_cases hv : y.v = x.v
            · have hv' : (y.v != x.v) = false := by simpa using hv
              by_cases hq : y.q = x.q
              · have hq' : (y.q != x.q) = false := by simpa using hq
                have HE := Lib.hid (show E = false by rw [HDX.out]; simp [hj0, hje, hv, hq])
                clear hje hj0 hv hq
                go_quiet (fail)
                go_wp2_with fail
                go_meet
                exact ⟨by rw [HE.out], _, rfl⟩
              · have hq' : (y.q != x.q) = true := by simpa using hq
                have HE := Lib.hid (show E = true by rw [HDX.out]; simp [hq])
                clear hje hj0 hv hq
                go_quiet (fail)
                go_wp2_with fail
                go_meet
                exact ⟨by rw [HE.out], _, rfl⟩
            · have hv' : (y.v != x.v) = true := by simpa using hv
              have HE := Lib.hid (show E = true by rw [HDX.out]; simp [hv])
              clear hje hj0 hv
              go_quiet (fail)
              go_wp2_with fail
              go_meet
              exact ⟨by rw [HE.out], _, rfl⟩
      case rest =>
        obtain ⟨rfl, m, rfl⟩ := hcut
        have hk2 := (HK.out.alloc (.cells #[.int .i64 y.t, .int .i64 y.v, .int .i64 y.q] 71)).drewN m
        generalize (wr.alloc (.cells #[.int .i64 y.t, .int .i64 y.v, .int .i64 y.q] 71)).drewN m = wm at *
        have HK2 := Lib.hid hk2
        clear hk2 HK
        cases E
        · have HR := Lib.hid (show stpTo l (j + 1) = out by rw [HST.out]; rfl)
          go_wp2_with fail
          go_roundw
          case rel => exact ⟨j + 1, by omega, by go_num, by rw [HR.out]; exact HK2.out⟩
          case measure => simp [intOf]; omega
        · have HR := Lib.hid (show stpTo l (j + 1) = out ++ [(j : Int)] by rw [HST.out]; rfl)
          have ho := HK2.out.alloc (.cells #[.int .i64 (j : Int)] 3)
          have HO := Lib.hid ho
          have hso := ho.bl.size
          clear ho
          go_wp2_with (at_builtin; go_loud (refine wpList_append_num rfl (.tmp 44) (.tmp 46) rfl w.heap.size u3 out.length out rfl (by exact HO.out.own) wm.heap.size rfl (j : Int) (by exact Blk.new _ _ _) (by omega) (by exact hso) ?_); intro v1 wd hown1 hgrow1)
          have hkd := HO.out.grown _ hgrow1 hown1
          clear hown1 hgrow1
          go_roundw
          case rel => exact ⟨j + 1, by omega, by go_num, by rw [HR.out]; exact hkd⟩
          case measure => simp [intOf]; omega
    · obtain rfl : j = l.length := by omega
      go_wp2_with fail
      go_ret
      exact ⟨_, rfl, Rd.of_own hk.own, hk.bl⟩
end Go.Proofs.Ytblbfpokkpkcjaa

/- The contract of Minimum (package compress), over one of shortest. -/

namespace Go.Proofs.Ytblbfpokkpkcjaa
open Go.RowKit
set_option linter.unusedVariables false
set_option linter.unusedSimpArgs false

theorem path_fuel2 {nx : Nat → Nat} {n : Nat} (h : ∀ i, i < n → i < nx i ∧ nx i ≤ n) (k j i : Nat) (hk : n - i ≤ k) (hj : n - i ≤ j) : pathN nx n k i = pathN nx n j i := by
  induction k generalizing i j with
  | zero =>
    cases j with
    | zero => rfl
    | succ j => unfold pathN; rw [if_neg (by omega)]
  | succ k ih =>
    cases j with
    | zero => unfold pathN; rw [if_neg (by omega)]
    | succ j =>
      unfold pathN
      by_cases hi : i < n
      · obtain ⟨h1, h2⟩ := h i hi
        rw [if_pos hi, if_pos hi, ih j (nx i) (by omega) (by omega)]
      · rw [if_neg hi, if_neg hi]
theorem path_next {nx : Nat → Nat} {n : Nat} (h : ∀ i, i < n → i < nx i ∧ nx i ≤ n) (i : Nat) (hi : i < n) : pathN nx n (n - i) i = i :: pathN nx n (n - nx i) (nx i) := by
  obtain ⟨q, hq⟩ : ∃ q, n - i = q + 1 := ⟨n - i - 1, by omega⟩
  obtain ⟨h1, h2⟩ := h i hi
  rw [hq]
  conv => lhs; unfold pathN
  rw [if_pos hi, path_fuel2 h q (n - nx i) (nx i) (by omega) (by omega)]
theorem path_none {nx : Nat → Nat} {n : Nat} (i : Nat) (hi : n ≤ i) : pathN nx n (n - i) i = [] := by
  rw [show n - i = 0 by omega]; rfl

/-- What Minimum returns. -/
def minE (d m : Int) (l : List Smp) : Int := if erE (doorErr d m) (serErr l) ≠ 0 then erE (doorErr d m) (serErr l) else if 300 < l.length then 2 else 0
def minR (d m : Int) (l : List Smp) : List Int := if minE d m l = 0 then intsN (minTo (fun c => fitsB d m l (intsN c)) l.length (2 ^ l.length)) else []
theorem min_path {d m : Int} {l : List Smp} {N F : List Nat} (h : ∀ i, i < l.length → (N.getD i 0, F.getD i 0) = bestTo (nextB d m l i) (fun j => F.getD j 0) l.length l.length) :
    minTo (fun c => fitsB d m l (intsN c)) l.length (2 ^ l.length) = pathN (fun i => N.getD i 0) l.length l.length 0 ∧ ∀ i, i < l.length → i < N.getD i 0 ∧ N.getD i 0 ≤ l.length := by
  refine ⟨?_, fun i hi => ?_⟩
  · by_cases hl : 0 < l.length
    · exact min_way hl h
    · rw [show l.length = 0 by omega]
      simp [minTo, bitsL, pathN]
  · have ht : Tab (nextB d m l) l.length (fun j => F.getD j 0) (fun i => N.getD i 0) := tab_next h
    by_cases h2 : i + 1 = l.length
    · have := (ht.last i h2).1
      omega
    · obtain ⟨a, b, _⟩ := ht.step i (by omega)
      omega

set_option maxRecDepth 100000 in
set_option maxHeartbeats 4000000 in
theorem minimum_any (d m : Int) (v : Value) (l : List Smp) (w : World) (hR : RdS w 71 v l)
    (hsh : ∀ W, RdS W 71 v l → FitL l → l.length ≤ 300 → (0 ≤ d ∧ d ≤ 2000000) → Calls Try.prog 110 #[.agg #[.int .i64 d, .int .i64 m], v] W fun e w' => ∃ (g : Nat) (N F : List Nat), e = .returned (.slice (some ⟨g, 0, none⟩) l.length l.length) ∧ N.length = l.length ∧ (∀ i, i < l.length → (N.getD i 0, F.getD i 0) = bestTo (nextB d m l i) (fun j => F.getD j 0) l.length l.length) ∧ Blk w' g 3 (cellsN N) ∧ Below W.heap.size W w') :
    Calls Try.prog 28 #[.agg #[.int .i64 d, .int .i64 m], v] w fun e w' => ∃ vr, e = .returned (.tuple #[vr, .int .i64 (minE d m l)]) ∧ RdI w' vr (minR d m l) ∧ Below w.heap.size w w' := by
  obtain ⟨pa, ca, rfl⟩ := hR.lenv
  have hbw : Below w.heap.size w (w.alloc (.cells #[.int .i64 d, .int .i64 m] 30)) := (Below.refl _ w).alloc (Nat.le_refl _) _
  have bd0 : Blk (w.alloc (.cells #[.int .i64 d, .int .i64 m] 30)) w.heap.size 30 #[.int .i64 d, .int .i64 m] := Blk.new w _ _
  have hcb := checkBoth_any d m (.slice pa l.length ca) l _ (Rd.below hR hbw)
  have HZ := Lib.hid (fun h : erE (doorErr d m) (serErr l) = 0 => And.intro (doorErr_ok (erE_zero h).1) (erE_zero h).2)
  have HM := Lib.hid (show minE d m l = if erE (doorErr d m) (serErr l) ≠ 0 then erE (doorErr d m) (serErr l) else if 300 < l.length then 2 else 0 from rfl)
  have HRR := Lib.hid (show minR d m l = if minE d m l = 0 then intsN (minTo (fun c => fitsB d m l (intsN c)) l.length (2 ^ l.length)) else [] from rfl)
  generalize minR d m l = RR at *
  generalize minE d m l = ME at *
  generalize erE (doorErr d m) (serErr l) = E at *
  have HCB := Lib.hid hcb
  have HR := Lib.hid hR
  have HSH := Lib.hid hsh
  clear hcb hR hsh
  go_enter Try.func28, Try.ntmps28
  go_upto_region 1 with fail
  generalize w.alloc (.cells #[.int .i64 d, .int .i64 m] 30) = w1 at *
  have e0 := bd0.cell 0
  have e1 := bd0.cell 1
  go_wp2_with fail
  refine HCB.out.mono ?_
  rintro e w2 ⟨rfl, hb2⟩
  have bd2 := bd0.below hb2 bd0.lt
  have hb := hbw.trans (hb2.mono hbw.size)
  clear hbw hb2 bd0 e0 e1
  by_cases hE : E = 0
  · have hE' : (E != 0) = false := by simpa using hE
    obtain ⟨⟨hd, hm⟩, hS⟩ := HZ.out hE
    have hfit := serErr_fit hS
    have hlong := (serErr_good hS).1
    have HM2 := Lib.hid (show ME = if 300 < l.length then 2 else 0 by rw [HM.out, if_neg (by simp [hE])])
    clear hE HZ HM HCB
    by_cases hl : 300 < l.length
    · have HX := Lib.hid (show ME = 2 by rw [HM2.out, if_pos hl])
      have HX2 := Lib.hid (show RR = [] by rw [HRR.out, HX.out]; rfl)
      go_wp2_with fail
      go_ret2
      exact ⟨_, by rw [HX.out]; rfl, by rw [HX2.out]; exact Rd.nil _ _ _, hb⟩
    · have HX := Lib.hid (show ME = 0 by rw [HM2.out, if_neg hl])
      have HX2 := Lib.hid (show RR = intsN (minTo (fun c => fitsB d m l (intsN c)) l.length (2 ^ l.length)) by rw [HRR.out, HX.out, if_pos rfl])
      have hcall := HSH.out w2 (Rd.below HR.out hb) hfit (by omega) hd
      have HC := Lib.hid hcall
      have e0 := bd2.cell 0
      have e1 := bd2.cell 1
      clear hcall HSH hfit HM2 HRR
      go_wp2_with fail
      refine HC.out.mono ?_
      rintro e w3 ⟨g, N, F, rfl, hN, htab, hg, hb3⟩
      obtain ⟨hp1, hp2⟩ := min_path htab
      have HX3 := Lib.hid (show RR = intsN (pathN (fun i => N.getD i 0) l.length l.length 0) by rw [HX2.out, hp1])
      have HP := Lib.hid hp2
      have hb' := hb.trans (hb3.mono hb.size)
      clear hp1 hp2 htab HX2 HC e0 e1 bd2 hb hb3
      generalize l.length = n at *
      have hgl := hg.lt
      have HG := Lib.hid hg
      have HN := Lib.hid hN
      clear hg hN
      go_wp2_with fail
      go_loopw [7, 9] (fun o i wr => ∃ (c : List Nat) (j : Nat), j ≤ n ∧ i = .int .i64 (j : Int) ∧ c.length ≤ j ∧ pathN (fun i => N.getD i 0) n n 0 = c ++ pathN (fun i => N.getD i 0) n (n - j) j ∧ StK w3 o (intsN c) wr) (fun _ i _ => n - (intOf i).toNat)
      case atStart => exact ⟨[], 0, by omega, rfl, by simp, rfl, World.ownsRow_nil _ _ _ _, Below.refl _ _⟩
      case round =>
        obtain ⟨c, j, hj, rfl, hcl, hpath, hk⟩ := hrel
        have HPT := Lib.hid hpath
        clear hpath
        by_cases hlt : j < n
        · obtain ⟨q1, q2⟩ := HP.out j hlt
          have HPN := Lib.hid (path_next HP.out j hlt)
          have hil : (intsN c).length = c.length := by simp [intsN]
          have ho := hk.alloc (.cells #[.int .i64 (j : Int)] 3)
          have HO := Lib.hid ho
          have hso := ho.bl.size
          clear ho
          go_upto_region 10 with (at_builtin; go_loud (refine wpList_append_num rfl (.tmp 30) (.tmp 32) rfl w3.heap.size u7 (intsN c).length (intsN c) rfl (by exact HO.out.own) wr.heap.size rfl (j : Int) (by exact Blk.new _ _ _) (by omega) (by exact hso) ?_); intro v1 wd hown1 hgrow1)
          have hkd := HO.out.grown _ hgrow1 hown1
          have hgd : Blk wd g 3 (cellsN N) := HG.out.below hkd.bl hgl
          have hcd : wd.cell? ⟨g, j, none⟩ = some (.int .i64 ((N.getD j 0 : Nat) : Int)) := (Blk.cell hgd j).trans (cellsN_at N j (by rw [HN.out]; exact hlt))
          have hnl : ((j : Int)).toNat = j := by omega
          have hgd2 := lt_of_heap hgd
          have HPT2 := Lib.hid (show pathN (fun i => N.getD i 0) n n 0 = (c ++ [j]) ++ pathN (fun i => N.getD i 0) n (n - N.getD j 0) (N.getD j 0) by rw [HPT.out, HPN.out]; simp)
          have hcl2 : (c ++ [j]).length ≤ N.getD j 0 := by rw [List.length_append]; simp only [List.length_cons, List.length_nil]; omega
          have HIN := Lib.hid (show intsN (c ++ [j]) = intsN c ++ [(j : Int)] by simp [intsN])
          have HKD := Lib.hid hkd
          clear HPN HPT hown1 hgrow1 hgd HO hk hkd
          generalize hgj : N.getD j 0 = q at *
          have HGJ := Lib.hid hgj
          clear hgj
          go_wp2_with fail
          go_roundw
          case rel => exact ⟨c ++ [j], q, q2, rfl, hcl2, HPT2.out, by rw [HIN.out]; exact HKD.out⟩
          case measure => simp [intOf]; omega
        · obtain rfl : j = n := by omega
          have HE := Lib.hid (show RR = intsN c by rw [HX3.out, HPT.out, path_none _ (Nat.le_refl _), List.append_nil])
          go_wp2_with fail
          go_ret2
          exact ⟨_, by rw [HX.out]; rfl, by rw [HE.out]; exact Rd.of_own hk.own, hb'.trans (hk.bl.mono hb'.size)⟩
  · have hE' : (E != 0) = true := by simpa using hE
    have HX := Lib.hid (show ME = E by rw [HM.out, if_pos hE])
    have HX2 := Lib.hid (show RR = [] by rw [HRR.out, HX.out, if_neg hE])
    clear hE
    go_wp2_with fail
    go_ret2
    exact ⟨_, by rw [HX.out]; rfl, by rw [HX2.out]; exact Rd.nil _ _ _, hb⟩
end Go.Proofs.Ytblbfpokkpkcjaa
