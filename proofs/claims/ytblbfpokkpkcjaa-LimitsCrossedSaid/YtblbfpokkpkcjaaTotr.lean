/- The contracts of the reference's counted, TotalFault and TotalOf. -/
import Derived.Test.YtblbfpokkpkcjaaTot
import Derived.Test.YtblbfpokkpkcjaaDist
import Derived.Test.YtblbfpokkpkcjaaApn
namespace Go.Proofs.Ytblbfpokkpkcjaa
open Go.RowKit
set_option linter.unusedVariables false
set_option linter.unusedSimpArgs false

theorem cntF_succ (f t : Int) (l : List Smp) (i : Nat) (h : i < l.length) : cntF f t (l.take (i + 1)) = cntF f t (l.take i) ++ (if inB (atS l i).t f t = true ∧ (atS l i).q ≠ 2 then [(atS l i).v] else []) := by
  rw [take_snocS l i h]; unfold cntF
  rw [List.filter_append, List.map_append]
  congr 1
  by_cases hh : inB (atS l i).t f t = true ∧ (atS l i).q ≠ 2
  · rw [if_pos hh, List.filter_cons_of_pos (by simp [hh.1, hh.2])]; rfl
  · rw [if_neg hh, List.filter_cons_of_neg (by simpa using hh)]; rfl
theorem cntF_le (f t : Int) (l : List Smp) : (cntF f t l).length ≤ l.length := by unfold cntF; rw [List.length_map]; exact List.length_filter_le _ _

set_option maxRecDepth 100000 in
set_option maxHeartbeats 2000000 in
theorem counted_any (v : Value) (l : List Smp) (f t : Int) (w : World) (hR : RdS w 71 v l) (hlong : l.length ≤ 5000) :
    Calls Try.prog 162 #[v, .agg #[.int .i64 f, .int .i64 t]] w fun e w' => ∃ v', e = .returned v' ∧ RdI w' v' (cntF f t l) ∧ Below w.heap.size w w' := by
  obtain ⟨ps, cs, rfl⟩ := hR.lenv
  have hk0 := KW.start (f := f) (t := t) hR
  generalize hz : w.alloc (.cells #[.int .i64 f, .int .i64 t] 82) = wz at hk0
  have HZ := Lib.hid hz
  have HK0 := Lib.hid hk0
  have hltz := hk0.bw.lt
  clear hR hz hk0
  go_enter Try.func162, Try.ntmps162
  go_wp2_with fail
  rw [HZ.out]
  go_loopw [5, 10] (fun so si wr => ∃ (m : Nat) (vo : Value), vo = so ∧ m ≤ l.length ∧ si = .int .i64 (m : Int) ∧ wr.ownsRow wz.heap.size 3 1 vo (cntF f t (l.take m)).length ((cntF f t (l.take m)).map (Value.int .i64)) ∧ Below wz.heap.size wz wr) (fun _ i _ => l.length - (intOf i).toNat)
  case atStart => exact ⟨0, _, rfl, by omega, rfl, World.ownsRow_nil _ _ _ _, Below.refl _ _⟩
  case round =>
    obtain ⟨m, vo, rfl, hm, rfl, hown, hbr⟩ := hrel
    have hkr := KW.step hbr HK0.out
    have hql := cntF_le f t (l.take m)
    have htl : (l.take m).length = m := by rw [List.length_take]; omega
    rw [htl] at hql
    clear htl
    have hszr := hbr.size
    by_cases hlt : m < l.length
    · have hqs := cntF_succ f t l m hlt
      have HQS := Lib.hid hqs
      obtain ⟨b, off, c, hv, hc1, hc2, hblt, hcell⟩ := RdS.at_ hkr.rs (by omega)
      cases hv
      unfold maxLen at hc2
      obtain ⟨c0, c1, c2⟩ := hcell m hlt
      have e0 : wr.cell? ⟨w.heap.size, 0, none⟩ = some (.int .i64 f) := hkr.bw.cell 0
      have e1 : wr.cell? ⟨w.heap.size, 1, none⟩ = some (.int .i64 t) := hkr.bw.cell 1
      have hltw := hkr.bw.lt
      have hbx := hbr.alloc hszr (.cells #[.int .i64 (atS l m).t, .int .i64 (atS l m).v, .int .i64 (atS l m).q] 71)
      clear hcell hqs hkr
      generalize atS l m = x at *
      generalize cntF f t (l.take m) = C at *
      have hri := fun w => rin_any x.t f t w
      cases hin : inB x.t f t
      · have hn : cntF f t (l.take (m + 1)) = C := by rw [HQS.out, if_neg (by rw [hin]; simp)]; simp
        have HN := Lib.hid hn
        rw [hin] at hri
        clear hin hn
        go_wp2_with (go_at_call 111; refine (hri _).mono ?_; rintro e wj ⟨rfl, rfl⟩)
        go_roundw
        case rel => exact ⟨m + 1, _, rfl, by omega, by go_num, by rw [HN.out]; exact hown.alloc _, hbx⟩
        case measure => simp [intOf]; omega
      · rw [hin] at hri
        by_cases hq : x.q = 2
        · have hn : cntF f t (l.take (m + 1)) = C := by rw [HQS.out, if_neg (fun h => h.2 hq)]; simp
          have hq' : (x.q != 2) = false := by simpa using hq
          have HN := Lib.hid hn
          clear hin hn hq
          go_wp2_with (go_at_call 111; refine (hri _).mono ?_; rintro e wj ⟨rfl, rfl⟩)
          go_roundw
          case rel => exact ⟨m + 1, _, rfl, by omega, by go_num, by rw [HN.out]; exact hown.alloc _, hbx⟩
          case measure => simp [intOf]; omega
        · have hn : cntF f t (l.take (m + 1)) = C ++ [x.v] := by rw [HQS.out, if_pos ⟨hin, hq⟩]
          have hq' : (x.q != 2) = true := by simpa using hq
          have HN := Lib.hid hn
          clear hin hn hq
          go_wp2_with (first
            | (go_at_call 111; refine (hri _).mono ?_; rintro e wj ⟨rfl, rfl⟩)
            | (at_builtin; refine wpList_append_num rfl (.tmp 26) (.tmp 29) rfl wz.heap.size vo C.length C rfl (by exact (hown.alloc _).alloc _) (wr.heap.size + 1) rfl x.v (by exact Blk.new1 _ _ _ _) (by omega) (by simp; omega) ?_; intro v1 w1 hown1 hgrow1; have hb1 := (hbx.alloc (by simp; omega) _).trans (below_grown ((hown.alloc _).alloc _) (by simp; omega) hgrow1); clear hgrow1))
          go_roundw
          case rel => exact ⟨m + 1, _, rfl, by omega, by go_num, by rw [HN.out, List.length_append, List.length_singleton]; exact hown1, hb1⟩
          case measure => simp [intOf]; omega
    · obtain rfl : m = l.length := by omega
      have hta : l.take l.length = l := List.take_length
      rw [hta] at hown
      have HO := Lib.hid hown
      clear hta hown hql
      go_wp2_with fail
      go_ret
      exact ⟨_, rfl, Rd.of_own HO.out, hkr.be⟩

theorem totalFault1_any (n roll : Int) (b : Nat) (w : World) (hB : Blk w b 3 #[.int .i64 roll]) (hr : -2000000000000000000 ≤ roll ∧ roll ≤ 2000000000000000000) :
    Calls Try.prog 163 #[.int .i64 n, .pointer (some ⟨b, 0, none⟩)] w fun e w' => e = .returned (.bool (!inB n 0 (roll - 1))) ∧ w = w' := by
  have c0 : w.cell? ⟨b, 0, none⟩ = some (.int .i64 roll) := hB.cell 0
  have hri := fun w => rin_any n 0 (roll - 1) w
  clear hB
  generalize inB n 0 (roll - 1) = B at *
  go_enter Try.func163, Try.ntmps163
  go_wp2_with (go_at_call 111; refine (hri _).mono ?_; rintro e wj ⟨rfl, rfl⟩)
  go_ret
  exact ⟨rfl, rfl⟩
theorem enter_totalFault1 (args : Array Value) (w : World) : (callFunc 163 args).run Try.prog w = .ok (.enter 163 args) w := by kernel_rfl

/-- What IndexFunc returns. -/
def IdxEnd (roll : Int) (ns : List Int) (w : World) (e : Ending) (w' : World) : Prop := ∃ k : Int, e = .returned (.int .i64 k) ∧ (0 ≤ k ↔ (ns.all fun n => inB n 0 (roll - 1)) = false) ∧ (-1 ≤ k ∧ k ≤ 1000000) ∧ w = w'
set_option maxRecDepth 100000 in
set_option maxHeartbeats 2000000 in
theorem indexFunc_any (v : Value) (ns : List Int) (roll : Int) (bb : Nat) (w : World) (hN : RdI w v ns) (hlong : ns.length ≤ 5000) (hB : Blk w bb 3 #[.int .i64 roll]) (hr : -2000000000000000000 ≤ roll ∧ roll ≤ 2000000000000000000) :
    Calls Try.prog 192 #[v, .func (.func 163) #[] #[.pointer (some ⟨bb, 0, none⟩)]] w (IdxEnd roll ns w) := by
  have hcf := enter_totalFault1
  have ht1 := fun n => totalFault1_any n roll bb w hB hr
  obtain ⟨ps, cs, rfl⟩ : ∃ pa ca, v = .slice pa ns.length ca := by obtain ⟨_, pa, ca, rfl, _⟩ := hN; exact ⟨pa, ca, rfl⟩
  have HT1 := Lib.hid ht1
  have HN := Lib.hid hN
  clear ht1 hN hB
  go_enter Try.func192, Try.ntmps192
  go_wp2_with fail
  go_loop [8] (fun si => ∃ m : Nat, m ≤ ns.length ∧ si = .int .i64 (m : Int) ∧ ((ns.take m).all fun n => inB n 0 (roll - 1)) = true) (fun i => ns.length - (intOf i).toNat)
  case atStart => exact ⟨0, by omega, rfl, rfl⟩
  case round =>
    obtain ⟨m, hm, rfl, hall⟩ := hrel
    have HALL := Lib.hid hall
    clear hall
    by_cases hlt : m < ns.length
    · obtain ⟨b, off, c, hv, hc1, hc2, hblt, hcell⟩ := RdI.cells HN.out (by omega)
      cases hv
      unfold maxLen at hc2
      have c0 := hcell m hlt
      have hsu : ((ns.take (m + 1)).all fun n => inB n 0 (roll - 1)) = inB ns[m] 0 (roll - 1) := by
        rw [List.take_succ_eq_append_getElem hlt, List.all_append, HALL.out]; simp
      have hbad : inB ns[m] 0 (roll - 1) = false → (ns.all fun n => inB n 0 (roll - 1)) = false := fun h => by
        rw [List.all_eq_false]; exact ⟨ns[m], List.getElem_mem hlt, by rw [h]; simp⟩
      have HSU := Lib.hid hsu
      have HBAD := Lib.hid hbad
      clear hcell hsu hbad
      generalize ns[m] = n at *
      have i1 : (0 : Int) ≤ (m : Int) := by omega
      have i2 : (m : Int) < (ns.length : Int) := by omega
      have hc := HT1.out n
      cases hin : inB n 0 (roll - 1)
      · have HI := Lib.hid hin
        rw [hin] at hc
        clear hin
        go_wp2_with fail
        refine hc.mono ?_
        rintro e wj ⟨rfl, rfl⟩
        clear hc
        go_wp2_with fail
        go_ret
        exact ⟨m, rfl, ⟨fun _ => HBAD.out HI.out, fun _ => by omega⟩, by omega, rfl⟩
      · have HI := Lib.hid hin
        rw [hin] at hc
        clear hin
        go_wp2_with fail
        refine hc.mono ?_
        rintro e wj ⟨rfl, rfl⟩
        clear hc
        go_wp2_with fail
        go_round
        case rel => exact ⟨m + 1, by omega, by go_num, by rw [HSU.out, HI.out]⟩
        case measure => simp [intOf]; omega
    · obtain rfl : m = ns.length := by omega
      go_wp2_with fail
      go_ret
      refine ⟨-1, rfl, ⟨fun h => by omega, fun h => ?_⟩, by omega, rfl⟩
      have := HALL.out
      rw [List.take_length, h] at this
      cases this
theorem containsFunc_any (v : Value) (ns : List Int) (roll : Int) (bb : Nat) (w : World) (hN : RdI w v ns) (hlong : ns.length ≤ 5000) (hB : Blk w bb 3 #[.int .i64 roll]) (hr : -2000000000000000000 ≤ roll ∧ roll ≤ 2000000000000000000) :
    Calls Try.prog 161 #[v, .func (.func 163) #[] #[.pointer (some ⟨bb, 0, none⟩)]] w fun e w' => e = .returned (.bool (!(ns.all fun n => inB n 0 (roll - 1)))) ∧ w = w' := by
  have hix := indexFunc_any v ns roll bb w hN hlong hB hr
  unfold IdxEnd at hix
  clear hN hB
  generalize (ns.all fun n => inB n 0 (roll - 1)) = A at *
  have HIX := Lib.hid hix
  clear hix
  go_enter Try.func161, Try.ntmps161
  go_wp2_with fail
  refine HIX.out.mono ?_
  rintro e wj ⟨k, rfl, hk, hk2, rfl⟩
  have HK := Lib.hid hk
  clear hk
  by_cases h0 : 0 ≤ k
  · have hA := HK.out.1 h0
    subst hA
    go_wp2_with fail
    go_ret
    exact ⟨rfl, rfl⟩
  · have hA : A = true := by
      cases hA : A
      · exact absurd (HK.out.2 hA) h0
      · rfl
    subst hA
    have h0' : decide (0 ≤ k) = false := by simpa using h0
    clear h0
    go_wp2_with fail
    go_ret
    exact ⟨rfl, rfl⟩

set_option maxRecDepth 100000 in
set_option maxHeartbeats 2000000 in
theorem totalFault_any (v : Value) (l : List Smp) (f t roll : Int) (w : World) (hR : RdS w 71 v l) (hlong : l.length ≤ 5000) (hr : -2000000000000000000 ≤ roll ∧ roll ≤ 2000000000000000000) :
    Calls Try.prog 92 #[v, .agg #[.int .i64 f, .int .i64 t], .int .i64 roll] w fun e w' => e = .returned (.int .i64 (if inB roll 1 2000000000 = false then 1 else if tAll roll (slicF f (t + 1) l) = true then 0 else 16)) ∧ Below w.heap.size w w' := by
  have hall : ((cntF f t l).all fun n => inB n 0 (roll - 1)) = tAll roll (slicF f (t + 1) l) := by rw [cntF_slic]; exact all_eq _
  have hcl := cntF_le f t l
  have hk0 := KW.start (f := f) (t := t) hR
  have hk1 := hk0.alloc (.cells #[.int .i64 roll] 3)
  have hbr := Blk.new1 w (.cells #[.int .i64 f, .int .i64 t] 82) 3 #[.int .i64 roll]
  have HK1 := Lib.hid hk1
  have HBR := Lib.hid hbr
  have HALL := Lib.hid hall
  have hmf : ∀ (fn : Fn) (first cap : Array Value) (w : World), (Instr.makeFunc fn first cap).run Try.prog w = .ok (.func fn first cap) w := fun _ _ _ _ => rfl
  have hsf := fun w => spanFault_any roll 1 2000000000 w
  have hca := fun w (h : RdS w 71 v l) => counted_any v l f t w h hlong
  clear hR hk0 hk1 hbr hall
  generalize tAll roll (slicF f (t + 1) l) = A at *
  generalize cntF f t l = C at *
  generalize hQ : (if inB roll 1 2000000000 = false then (1 : Int) else if A = true then 0 else 16) = Q at *
  have HQ := Lib.hid hQ
  clear hQ
  have hsp : spanErr roll 1 2000000000 = if inB roll 1 2000000000 = true then 0 else 1 := rfl
  generalize spanErr roll 1 2000000000 = SE at *
  have HSP := Lib.hid hsp
  clear hsp
  go_enter Try.func92, Try.ntmps92
  go_upto_region 1 with fail
  generalize (w.alloc (.cells #[.int .i64 f, .int .i64 t] 82)).alloc (.cells #[.int .i64 roll] 3) = w1 at *
  have e0 : w1.cell? ⟨w.heap.size, 0, none⟩ = some (.int .i64 f) := HK1.out.bw.cell 0
  have e1 : w1.cell? ⟨w.heap.size, 1, none⟩ = some (.int .i64 t) := HK1.out.bw.cell 1
  have e2 : w1.cell? ⟨w.heap.size + 1, 0, none⟩ = some (.int .i64 roll) := HBR.out.cell 0
  go_wp2_with fail
  refine (hsf _).mono ?_
  rintro e w2 ⟨rfl, rfl⟩
  clear hsf
  cases hin : inB roll 1 2000000000
  · have hS1 : SE = 1 := by rw [HSP.out, hin]; rfl
    have HQ1 := Lib.hid (show Q = 1 by rw [← HQ.out, hin]; rfl)
    subst hS1
    clear hin
    go_wp2_with fail
    go_ret
    exact ⟨ret_int HQ1.out.symm, HK1.out.be⟩
  · have hS1 : SE = 0 := by rw [HSP.out, hin]; rfl
    have HQ1 := Lib.hid (show Q = if A = true then 0 else 16 by rw [← HQ.out, hin]; rfl)
    subst hS1
    clear hin
    go_wp2_with fail
    refine (hca _ HK1.out.rs).mono ?_
    rintro e w3 ⟨vc, rfl, hrc, hb3⟩
    have hk3 := KW.step hb3 HK1.out
    have hbr3 := HBR.out.below hb3 HBR.out.lt
    clear hca hb3 e0 e1 e2
    go_wp2_with fail
    refine (containsFunc_any vc C roll (w.heap.size + 1) _ hrc (by omega) hbr3 hr).mono ?_
    rintro e w4 ⟨rfl, rfl⟩
    rw [HALL.out]
    cases A
    · go_wp2_with fail
      go_ret
      exact ⟨ret_int (by rw [HQ1.out]; rfl), hk3.be⟩
    · go_wp2_with fail
      go_ret
      exact ⟨ret_int (by rw [HQ1.out]; rfl), hk3.be⟩

theorem rSt_succ (roll : Int) (ns : List Int) (i : Nat) (h : i < ns.length) : rSt roll (ns.take (i + 1)) = rStep roll (rSt roll (ns.take i)) ns[i] := by
  unfold rSt; rw [List.take_succ_eq_append_getElem h, List.foldl_append]; rfl
theorem rSt_bound {roll : Int} (hr : 1 ≤ roll ∧ roll ≤ 2000000000) (ns : List Int) (h : ∀ n ∈ ns, 0 ≤ n ∧ n ≤ roll - 1) : (-1 ≤ (rSt roll ns).2 ∧ (rSt roll ns).2 ≤ roll - 1) ∧ (0 ≤ (rSt roll ns).1 ∧ (rSt roll ns).1 ≤ 2000000000 * (ns.length : Int)) := by
  induction ns using snocInd with
  | h0 => simp [rSt]; omega
  | h1 l x ih =>
    have h2 := ih fun n hn => h n (List.mem_append_left _ hn)
    have h3 := h x (by simp)
    have e : rSt roll (l ++ [x]) = rStep roll (rSt roll l) x := by unfold rSt; simp
    rw [e]
    unfold rStep
    generalize rSt roll l = s at *
    obtain ⟨a, b⟩ := s
    simp only [List.length_append, List.length_singleton] at *
    by_cases h0 : 0 ≤ b
    · rw [if_pos h0]; split <;> omega
    · rw [if_neg h0, if_neg (by omega)]; omega

set_option maxRecDepth 100000 in
set_option maxHeartbeats 2000000 in
theorem totalOf_any (v : Value) (l : List Smp) (f t roll : Int) (w : World) (hR : RdS w 71 v l) (hlong : l.length ≤ 5000) (hro : inB roll 1 2000000000 = true) (hta : tAll roll (slicF f (t + 1) l) = true) :
    Calls Try.prog 93 #[v, .agg #[.int .i64 f, .int .i64 t], .int .i64 roll] w fun e w' => e = .returned (.int .i64 (tSt roll (slicF f (t + 1) l)).1) ∧ Below w.heap.size w w' := by
  have hrr := inB_true.1 hro
  have hall : ∀ n ∈ cntF f t l, 0 ≤ n ∧ n ≤ roll - 1 := by
    have h1 := all_eq (roll := roll) (slicF f (t + 1) l)
    rw [← cntF_slic, hta, List.all_eq_true] at h1
    intro n hn
    exact inB_true.1 (h1 n hn)
  have heq : rSt roll (cntF f t l) = tSt roll (slicF f (t + 1) l) := by rw [cntF_slic]; exact rSt_eq _ hta
  have hcl := cntF_le f t l
  have hk0 := KW.start (f := f) (t := t) hR
  have HK0 := Lib.hid hk0
  have HALL := Lib.hid hall
  have HEQ := Lib.hid heq
  have hca := fun w (h : RdS w 71 v l) => counted_any v l f t w h hlong
  clear hR hk0 hall heq hro hta
  generalize tSt roll (slicF f (t + 1) l) = T at *
  generalize cntF f t l = C at *
  go_enter Try.func93, Try.ntmps93
  go_upto_region 1 with fail
  generalize w.alloc (.cells #[.int .i64 f, .int .i64 t] 82) = w1 at *
  have e0 : w1.cell? ⟨w.heap.size, 0, none⟩ = some (.int .i64 f) := HK0.out.bw.cell 0
  have e1 : w1.cell? ⟨w.heap.size, 1, none⟩ = some (.int .i64 t) := HK0.out.bw.cell 1
  go_wp2_with fail
  refine (hca _ HK0.out.rs).mono ?_
  rintro e w3 ⟨vc, rfl, hrc, hb3⟩
  have hbe := HK0.out.be.trans (hb3.mono HK0.out.be.size)
  obtain ⟨ps, cs, rfl⟩ : ∃ pa ca, vc = .slice pa C.length ca := by obtain ⟨_, pa, ca, rfl, _⟩ := hrc; exact ⟨pa, ca, rfl⟩
  have HRC := Lib.hid hrc
  clear hca hb3 e0 e1 hrc
  go_wp2_with fail
  go_loop [7, 8, 15] (fun ss sl si => ∃ m : Nat, m ≤ C.length ∧ si = .int .i64 (m : Int) ∧ ss = .int .i64 (rSt roll (C.take m)).1 ∧ sl = .int .i64 (rSt roll (C.take m)).2) (fun _ _ i => C.length - (intOf i).toNat)
  case atStart => exact ⟨0, by omega, rfl, rfl, rfl⟩
  case round =>
    obtain ⟨m, hm, rfl, rfl, rfl⟩ := hrel
    have hbd := rSt_bound hrr (C.take m) fun n hn => HALL.out n (List.mem_of_mem_take hn)
    have htl : (C.take m).length = m := by rw [List.length_take]; omega
    rw [htl] at hbd
    clear htl
    by_cases hlt : m < C.length
    · have hsu := rSt_succ roll C m hlt
      obtain ⟨b, off, c, hv, hc1, hc2, hblt, hcell⟩ := RdI.cells HRC.out (by omega)
      cases hv
      unfold maxLen at hc2
      have c0 := hcell m hlt
      have hn := HALL.out C[m] (List.getElem_mem hlt)
      have HSU := Lib.hid hsu
      clear hcell hsu
      generalize C[m] = n at *
      generalize rSt roll (C.take m) = s at *
      obtain ⟨sum, last⟩ := s
      simp only at hbd
      have hmm : (m : Int) ≤ 5000 := by omega
      by_cases h0 : 0 ≤ last
      · by_cases h1 : n < last
        · have hs : rSt roll (C.take (m + 1)) = (sum + (n - last) + roll, n) := by rw [HSU.out]; simp only [rStep]; rw [if_pos h0, if_pos h1]
          have HS := Lib.hid hs
          clear hs
          go_wp2_with fail
          go_round
          case rel => exact ⟨m + 1, by omega, by go_num, by rw [HS.out], by rw [HS.out]⟩
          case measure => simp [intOf]; omega
        · have hs : rSt roll (C.take (m + 1)) = (sum + (n - last), n) := by rw [HSU.out]; simp only [rStep]; rw [if_pos h0, if_neg h1, Int.add_zero]
          have HS := Lib.hid hs
          have h1' : last ≤ n := by omega
          clear hs
          go_wp2_with fail
          go_round
          case rel => exact ⟨m + 1, by omega, by go_num, by rw [HS.out], by rw [HS.out]⟩
          case measure => simp [intOf]; omega
      · have hs : rSt roll (C.take (m + 1)) = (sum, n) := by rw [HSU.out]; simp only [rStep]; rw [if_neg h0, if_neg (by omega), Int.add_zero]
        have HS := Lib.hid hs
        have h0' : last < 0 := by omega
        have h1 : last ≤ n := by omega
        clear hs
        go_wp2_with fail
        go_round
        case rel => exact ⟨m + 1, by omega, by go_num, by rw [HS.out], by rw [HS.out]⟩
        case measure => simp [intOf]; omega
    · obtain rfl : m = C.length := by omega
      go_wp2_with fail
      go_ret
      exact ⟨ret_int (by rw [HEQ.out]), hbe⟩
end Go.Proofs.Ytblbfpokkpkcjaa
