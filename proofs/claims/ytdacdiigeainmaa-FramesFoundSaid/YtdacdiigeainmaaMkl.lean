/- The contract of FrameList (package logmake): some windows, at most four; no more is asked of it. -/
import Derived.Test.YtdacdiigeainmaaMkt
import Derived.Test.YtdacdiigeainmaaMkd
import Derived.Test.YtdacdiigeainmaaOva
import Derived.Test.YtdacdiigeainmaaCurve
import Derived.Test.YtdacdiigeainmaaOnt
namespace Go.Proofs.Ytdacdiigeainmaa
open Go.RowKit
set_option linter.unusedVariables false
set_option linter.unusedSimpArgs false

/-- What FrameList keeps. -/
structure FlK (w0 : World) (g : Nat) (L : List Int) (A : Option Addr) (cap : Nat) (o : Value) (xs : List (Int × Int)) (k : Nat) (W : World) : Prop where
  s : Strm W g L A cap k
  bt : But g w0 W
  ow : W.ownsRow w0.heap.size 49 2 o xs.length (wdwCells xs)
section
variable {w0 W W' : World} {g : Nat} {L : List Int} {A : Option Addr} {cap k k' : Nat} {o : Value} {xs : List (Int × Int)}
theorem FlK.went (h : FlK w0 g L A cap o xs k W) (hw : Went W g L A cap k' W') : FlK w0 g L A cap o xs k' W' := ⟨hw.1, h.bt.trans hw.2, own_but h.s (by decide) h.ow hw.2⟩
theorem FlK.alloc (h : FlK w0 g L A cap o xs k W) (x : Obj) : FlK w0 g L A cap o xs k (W.alloc x) := ⟨h.s.alloc _, h.bt.alloc _, h.ow.alloc _⟩
theorem FlK.drew (h : FlK w0 g L A cap o xs k W) : FlK w0 g L A cap o xs k W.drew := ⟨h.s.drew, h.bt.drew, h.ow⟩
end
def SmallW (l : List (Int × Int)) : Prop := ∀ y ∈ l, (0 ≤ y.1 ∧ y.1 ≤ 1000) ∧ 0 ≤ y.2 ∧ y.2 ≤ 1000

set_option maxRecDepth 100000 in
set_option maxHeartbeats 8000000 in
theorem frameList_went (w : World) (g : Nat) (L : List Int) (A : Option Addr) (cap k : Nat) (hS : Strm w g L A cap k) (hk : k ≤ 700000000) :
    Calls Try.prog 7 #[.pointer (some ⟨g, 0, none⟩)] w (FlEnd w g L A cap k) := by
  have hlt0 := hS.lt
  have hr := nxt_range L (k + 1) (4 + 1) (by omega)
  have hn : (((nxt L (k + 1) (4 + 1)).toNat : Nat) : Int) = 0 + nxt L (k + 1) (4 - 0 + 1) := by rw [show (4 : Int) - 0 + 1 = 4 + 1 from by omega]; omega
  have hN : (nxt L (k + 1) (4 + 1)).toNat ≤ 4 := by omega
  generalize (nxt L (k + 1) (4 + 1)).toNat = N at *
  have HN := Lib.hid hn
  clear hn hr
  go_enter Try.func7, Try.ntmps7
  go_wp2_with fail
  refine (pick_new _ _ g L A cap k [0, 3, 10] hS rfl (by omega) (by simp)).mono ?_
  rintro e w1 ⟨rfl, hw1⟩
  have hT := pk_mem [0, 3, 10] L k (by simp)
  simp only [List.mem_cons, List.not_mem_nil, or_false] at hT
  generalize pk [0, 3, 10] L k = T at *
  have hT' : 0 ≤ T ∧ T ≤ 10 := by omega
  clear hT
  go_wp2_with fail
  refine (range_went _ g L A cap (k + 1) 0 4 hw1.1 (by omega) (by omega) (by omega) (by omega)).mono ?_
  rintro e w3 ⟨rfl, hw3, hz3⟩
  rw [← HN.out]
  have hg3 : FlK w g L A cap (.slice none 0 0) [] (k + 2 + 2 * 0) w3 := ⟨hw3.1, hw1.2.trans hw3.2, World.ownsRow_nil _ _ _ _⟩
  clear hw1 hw3 hz3 HN
  go_wp2_with fail
  go_loopw [3, 4, 12] (fun o st i wr => ∃ (j : Nat) (xs : List (Int × Int)) (t : Int), j ≤ N ∧ i = .int .i64 (j : Int) ∧ st = .int .i64 t ∧ (0 ≤ t ∧ t ≤ 10 + 50 * (j : Int)) ∧ xs.length = j ∧ SmallW xs ∧ FlK w g L A cap o xs (k + 2 + 2 * j) wr) (fun _ _ i _ => N - (intOf i).toNat)
  case atStart => exact ⟨0, [], T, by omega, rfl, rfl, by omega, rfl, (fun y hy => by cases hy), hg3⟩
  case round =>
    clear hg3
    obtain ⟨j, xs, t, hj, rfl, rfl, ht, hxl, hsm, hk0⟩ := hrel
    by_cases hlt : j < N
    · have hxl4 : xs.length ≤ 4 := by omega
      go_wp2_with fail
      refine (pick_new _ _ g L A cap (k + 2 + 2 * j) [1, 5, 20, 33] hk0.s rfl (by omega) (by simp)).mono ?_
      rintro e wa ⟨rfl, hwa⟩
      have hQ := pk_mem [1, 5, 20, 33] L (k + 2 + 2 * j) (by simp)
      simp only [List.mem_cons, List.not_mem_nil, or_false] at hQ
      generalize pk [1, 5, 20, 33] L (k + 2 + 2 * j) = p at *
      have hQ' : 1 ≤ p ∧ p ≤ 33 := by omega
      have hka := hk0.went hwa
      obtain ⟨te, hte⟩ : ∃ te, te = t + p := ⟨_, rfl⟩
      have hwt : IntKind.i64.wrap (t + p) = te := by rw [hte]; exact IntWalk.i64_in _ (by omega)
      have hteb : 0 ≤ te ∧ te ≤ 50 + 50 * (j : Int) := by omega
      have hsm2 : SmallW (xs ++ [(t, te)]) := fun y hy => by
        rcases List.mem_append.1 hy with hy | hy
        · exact hsm y hy
        · rw [List.mem_singleton.1 hy]; exact ⟨⟨by omega, by omega⟩, by omega, by omega⟩
      have hlenn : (xs ++ [(t, te)]).length = j + 1 := by simp [hxl]
      have HTE := Lib.hid hte
      have HSM := Lib.hid hsm2
      have HLN := Lib.hid hlenn
      clear hk0 hwa hQ hte hsm hsm2 hlenn
      go_upto_region 6 with fail
      have hbx := Blk.new wa 49 #[.int .i64 t, .int .i64 te]
      have hkb := hka.alloc (.cells #[.int .i64 t, .int .i64 te] 49)
      have hoQ := own_lt hka.ow
      have hQ0 : w.heap.size ≤ wa.heap.size := hka.bt.size
      generalize wa.alloc (.cells #[.int .i64 t, .int .i64 te] 49) = wb at *
      generalize wa.heap.size = Q at *
      have b0 := hbx.cell 0
      have b1 := hbx.cell 1
      have hkc := hkb.alloc (.cells #[.int .i64 t, .int .i64 te] 49)
      have hbc := hbx.alloc (.cells #[.int .i64 t, .int .i64 te] 49)
      have HKC := Lib.hid hkc
      have HBC := Lib.hid hbc
      have hso := hkc.bt.size
      clear hka hkb hkc hbx hbc
      have HPK := Lib.hid (fun (W : World) (B : Nat) (hS : Strm W g L A cap (k + 2 + 2 * j + 1)) (hB : Blk W B 3 #[.int .i64 0, .int .i64 1, .int .i64 10]) (hne : B ≠ g) =>
        (show Calls Try.prog 6 #[.pointer (some ⟨g, 0, none⟩), .slice (some ⟨B, 0, none⟩) 3 3] W fun e w' => e = .returned (.int .i64 (pk [0, 1, 10] L (k + 2 + 2 * j + 1))) ∧ Went W g L A cap (k + 2 + 2 * j + 2) w' from
          pick_blk W B g L A cap (k + 2 + 2 * j + 1) [0, 1, 10] hS hB hne (by omega) (by simp)))
      have hpm := pk_mem [0, 1, 10] L (k + 2 + 2 * j + 1) (by simp)
      simp only [List.mem_cons, List.not_mem_nil, or_false] at hpm
      generalize pk [0, 1, 10] L (k + 2 + 2 * j + 1) = q at *
      have hqb : 0 ≤ q ∧ q ≤ 10 := by omega
      have hwq : IntKind.i64.wrap (te + q) = te + q := IntWalk.i64_in _ (by omega)
      clear hpm
      go_upto_region 7 with (at_builtin; go_loud (refine wpList_append_wdw2 rfl (.tmp 21) (.tmp 23) rfl w.heap.size _ _ xs rfl (by exact HKC.out.ow) wb.heap.size rfl (t, te) (by exact Blk.new _ _ _) (by omega) (by exact hso) ?_); intro v1 wd hown1 hgrow1 hwh1)
      have hbd := blk_grown hgrow1 HBC.out (fun e => hoQ e.symm)
      have hkd : FlK w g L A cap v1 (xs ++ [(t, te)]) (k + 2 + 2 * j + 1) wd := by
        have h1 := below_grown HKC.out.ow hso hgrow1
        have h2 : Went w g L A cap (k + 2 + 2 * j + 1) wd := Went.below ⟨HKC.out.s, HKC.out.bt⟩ hlt0 h1
        exact ⟨h2.1, h2.2, by simpa using hown1⟩
      have hszd := hkd.bt.size
      have hQg : Q ≠ g := by omega
      have hQlt := hbd.lt
      have d0 : wd.cell? ⟨Q, 0, none⟩ = some (.int .i64 t) := hbd.cell 0
      have d1 : wd.cell? ⟨Q, 1, none⟩ = some (.int .i64 te) := hbd.cell 1
      clear hown1 hgrow1 hwh1
      go_region_with (go_at_call 6; (with_reducible refine (HPK.out _ _ ?_ ?_ ?_).mono ?_); (focus (first | exact (hkd.drew.alloc _).s | exact (hkd.alloc _).s; done)); (focus (exact Blk.new _ _ _; done)); (focus (first | omega | (show wd.heap.size ≠ g; omega); done)); rintro e we ⟨rfl, hqe⟩; have hke := FlK.went (by first | exact hkd.drew.alloc _ | exact hkd.alloc _) hqe; have d1' : we.cell? ⟨Q, 1, none⟩ = some (.int .i64 te) := ((by first | exact Blk.but ((Blk.drew hbd).alloc _) hqe.2 hQg | exact Blk.but (hbd.alloc _) hqe.2 hQg : Blk we Q 49 #[.int .i64 t, .int .i64 te])).cell 1)
      all_goals
        clear d0 d1 d1' hbd hkd hqe
        go_wp2_with fail
        go_roundw
        case rel => exact ⟨j + 1, xs ++ [(t, te)], te + q, by omega, by go_num, rfl, by omega, HLN.out, HSM.out, hke⟩
        case measure => simp [intOf]; omega
    · obtain rfl : j = N := by omega
      by_cases hx0 : xs = []
      · subst hx0
        simp only [List.length_nil] at hxl
        subst hxl
        have hw5 : Went w g L A cap (k + 2 + 2 * 0) wr := ⟨hk0.s, hk0.bt⟩
        rcases hk0.ow.2 with ⟨rfl, _⟩ | ⟨g', cap', cur, rfl, _, _⟩
        · go_wp2_with fail
          go_ret
          exact ⟨_, [], _, rfl, Rd.of_own hk0.ow, by simp, by omega, hw5⟩
        · go_wp2_with fail
          go_ret
          exact ⟨_, [], _, rfl, Rd.of_own hk0.ow, by simp, by omega, hw5⟩
      · have hxp : 0 < xs.length := List.length_pos_iff.2 hx0
        subst hxl
        obtain ⟨g1, cap1, rfl, hg1, hc1, hc2⟩ := own_form hk0.ow hxp
        unfold maxLen at hc2
        obtain ⟨z, hz⟩ : ∃ z, z = xs.length := ⟨_, rfl⟩
        have hzp : (0 : Int) < (xs.length : Int) := by omega
        clear hx0
        go_wp2_with fail
        refine (flip_went _ g L A cap _ 12 hk0.s (by omega) (by omega)).mono ?_
        rintro e w4 ⟨rfl, hw4, hz4⟩; clear hz4
        have hk4 := hk0.went hw4
        clear hk0 hw4
        by_cases hF : nxt L (k + 2 + 2 * xs.length) 12 = 0
        · have hF' : (nxt L (k + 2 + 2 * xs.length) 12 == 0) = true := by simpa using hF
          clear hF
          have hr := nxt_range L (k + 2 + 2 * xs.length + 1) xs.length (by omega)
          go_wp2_with fail
          refine (next_went _ g L A cap (k + 2 + 2 * xs.length + 1) xs.length hk4.s (by omega) (by omega)).mono ?_
          rintro e w5 ⟨rfl, hw5, hz5⟩; clear hz5
          have hk5 := hk4.went hw5
          clear hk4 hw5
          obtain ⟨n, hnx, hnl⟩ : ∃ n : Nat, nxt L (k + 2 + 2 * xs.length + 1) xs.length = (n : Int) ∧ n < xs.length := ⟨(nxt L (k + 2 + 2 * xs.length + 1) xs.length).toNat, by omega, by omega⟩
          generalize nxt L (k + 2 + 2 * xs.length + 1) xs.length = nn at *
          subst hnx
          obtain ⟨c0, c1⟩ := own_wdw hk5.ow rfl n hnl
          have hxb := hsm xs[n] (List.getElem_mem _)
          have i1 : (0 : Int) ≤ (n : Int) := by omega
          have i2 : (n : Int) < (xs.length : Int) := by omega
          have HCW := Lib.hid (fun (W : World) (h : W.ownsRow w.heap.size 49 2 (.slice (some ⟨g1, 0, none⟩) xs.length cap1) xs.length (wdwCells xs)) => own_wdw h rfl n hnl)
          have hpt := fun (W : World) (y : Int × Int) (h : W.ownsRow w.heap.size 49 2 (.slice (some ⟨g1, 0, none⟩) xs.length cap1) xs.length (wdwCells xs)) => own_putW h n hnl y
          generalize xs[n] = x at *
          obtain ⟨xa, xb⟩ := x
          simp only at c0 c1 hxb HCW
          have HPT := Lib.hid hpt
          obtain ⟨xm, hxm⟩ : ∃ m, m = xa - 4 := ⟨_, rfl⟩
          have hws : IntKind.i64.wrap (xa - 4) = xm := by rw [hxm]; exact IntWalk.i64_in _ (by omega)
          have HP1 := Lib.hid (fun (W : World) (B : Nat) (hS : Strm W g L A cap (k + 2 + 2 * xs.length + 2)) (hB : Blk W B 3 #[.int .i64 xm, .int .i64 (-1), .int .i64 xb]) (hne : B ≠ g) =>
            (show Calls Try.prog 6 #[.pointer (some ⟨g, 0, none⟩), .slice (some ⟨B, 0, none⟩) 3 3] W fun e w' => e = .returned (.int .i64 (pk [xm, -1, xb] L (k + 2 + 2 * xs.length + 2))) ∧ Went W g L A cap (k + 2 + 2 * xs.length + 3) w' from
              pick_blk W B g L A cap (k + 2 + 2 * xs.length + 2) [xm, -1, xb] hS hB hne (by omega) (by simp)))
          have HP2 := Lib.hid (fun (W : World) (B : Nat) (hS : Strm W g L A cap (k + 2 + 2 * xs.length + 3)) (hB : Blk W B 3 #[.int .i64 xb, .int .i64 345686400000, .int .i64 345686400001]) (hne : B ≠ g) =>
            (show Calls Try.prog 6 #[.pointer (some ⟨g, 0, none⟩), .slice (some ⟨B, 0, none⟩) 3 3] W fun e w' => e = .returned (.int .i64 (pk [xb, 345686400000, 345686400001] L (k + 2 + 2 * xs.length + 3))) ∧ Went W g L A cap (k + 2 + 2 * xs.length + 4) w' from
              pick_blk W B g L A cap (k + 2 + 2 * xs.length + 3) [xb, 345686400000, 345686400001] hS hB hne (by omega) (by simp)))
          generalize pk [xm, -1, xb] L (k + 2 + 2 * xs.length + 2) = r1 at *
          generalize pk [xb, 345686400000, 345686400001] L (k + 2 + 2 * xs.length + 3) = r2 at *
          have hsz5 := hk5.bt.size
          have hg5 : g1 < w5.heap.size := (hk5.ow.lt g1 rfl).2
          clear hxm hpt
          go_upto_region 11 with fail
          refine wp_region_anyT (fun W => W.cell? ⟨g1, n * 2, none⟩ = some (.int .i64 xa) ∧ W.cell? ⟨g1, n * 2 + 1, none⟩ = some (.int .i64 xb)) [23, 26] (by kernel_rfl) ⟨c0, c1⟩ (fun hS0 => ?_)
          have hk0 : FlK w g L A cap _ xs _ w5.drew := hk5.drew
          clear hk5
          generalize w5.drew = W0 at *
          refine anyT_take (i := 0) (some 45) (.pointer (some ⟨g1, n * 2, none⟩)) rfl rfl (by kernel_rfl) (by kernel_rfl) (by kernel_rfl) (fun _ _ _ h => h) (Or.inl ⟨by rfl, fun w _ => by first | rfl | (go_simp; done)⟩) (fun _ => hS0) ?_
          simp only [Act.put, List.setIfInBounds_toArray, List.set_cons_zero, List.set_cons_succ]
          refine anyT_take (i := 1) (some 46) (.pointer (some ⟨g1, n * 2, none⟩)) rfl rfl (by kernel_rfl) (by kernel_rfl) (by kernel_rfl) (fun _ _ _ h => h) (Or.inl ⟨by rfl, fun w _ => by first | rfl | (go_simp; done)⟩) (fun _ => hS0) ?_
          simp only [Act.put, List.setIfInBounds_toArray, List.set_cons_zero, List.set_cons_succ]
          refine anyT_take (i := 2) (some 47) (.pointer (some ⟨g, 0, none⟩)) rfl rfl (by kernel_rfl) (by kernel_rfl) (by kernel_rfl) (fun _ _ _ h => h) (Or.inl ⟨by rfl, fun w _ => by first | rfl | (go_simp; done)⟩) (fun _ => hS0) ?_
          simp only [Act.put, List.setIfInBounds_toArray, List.set_cons_zero, List.set_cons_succ]
          refine anyT_take (i := 3) (some 48) (.pointer (some ⟨g1, n * 2, none⟩)) rfl rfl (by kernel_rfl) (by kernel_rfl) (by kernel_rfl) (fun _ _ _ h => h) (Or.inl ⟨by rfl, fun w _ => by first | rfl | (go_simp; done)⟩) (fun _ => hS0) ?_
          simp only [Act.put, List.setIfInBounds_toArray, List.set_cons_zero, List.set_cons_succ]
          refine anyT_take (i := 4) (some 49) (.pointer (some ⟨g1, n * 2, none⟩)) rfl rfl (by kernel_rfl) (by kernel_rfl) (by kernel_rfl) (fun _ _ _ h => h) (Or.inl ⟨by rfl, fun w _ => by first | rfl | (go_simp; done)⟩) (fun _ => hS0) ?_
          simp only [Act.put, List.setIfInBounds_toArray, List.set_cons_zero, List.set_cons_succ]
          refine anyT_take (i := 5) (some 50) (.pointer (some ⟨g1, n * 2, none⟩)) rfl rfl (by kernel_rfl) (by kernel_rfl) (by kernel_rfl) (fun _ _ _ h => h) (Or.inl ⟨by rfl, fun w _ => by first | rfl | (go_simp; done)⟩) (fun _ => hS0) ?_
          simp only [Act.put, List.setIfInBounds_toArray, List.set_cons_zero, List.set_cons_succ]
          refine anyT_take (i := 8) (some 53) (.pointer (some ⟨g1, n * 2, none⟩)) rfl rfl (by kernel_rfl) (by kernel_rfl) (by kernel_rfl) (fun _ _ _ h => h) (Or.inl ⟨by rfl, fun w _ => by first | rfl | (go_simp; done)⟩) (fun _ => hS0) ?_
          simp only [Act.put, List.setIfInBounds_toArray, List.set_cons_zero, List.set_cons_succ]
          refine anyT_take (i := 9) (some 54) (.pointer (some ⟨g1, n * 2, none⟩)) rfl rfl (by kernel_rfl) (by kernel_rfl) (by kernel_rfl) (fun _ _ _ h => h) (Or.inl ⟨by rfl, fun w _ => by first | rfl | (go_simp; done)⟩) (fun _ => hS0) ?_
          simp only [Act.put, List.setIfInBounds_toArray, List.set_cons_zero, List.set_cons_succ]
          refine anyT_take (i := 10) (some 55) (.pointer (some ⟨g1, n * 2 + 1, none⟩)) rfl rfl (by kernel_rfl) (by kernel_rfl) (by kernel_rfl) (fun _ _ _ h => h) (Or.inl ⟨by rfl, fun w _ => by first | rfl | (go_simp; done)⟩) (fun _ => hS0) ?_
          simp only [Act.put, List.setIfInBounds_toArray, List.set_cons_zero, List.set_cons_succ]
          refine anyT_take (i := 14) (some 59) (.pointer (some ⟨g, 0, none⟩)) rfl rfl (by kernel_rfl) (by kernel_rfl) (by kernel_rfl) (fun _ _ _ h => h) (Or.inl ⟨by rfl, fun w _ => by first | rfl | (go_simp; done)⟩) (fun _ => hS0) ?_
          simp only [Act.put, List.setIfInBounds_toArray, List.set_cons_zero, List.set_cons_succ]
          refine anyT_take (i := 15) (some 60) (.pointer (some ⟨g1, n * 2, none⟩)) rfl rfl (by kernel_rfl) (by kernel_rfl) (by kernel_rfl) (fun _ _ _ h => h) (Or.inl ⟨by rfl, fun w _ => by first | rfl | (go_simp; done)⟩) (fun _ => hS0) ?_
          simp only [Act.put, List.setIfInBounds_toArray, List.set_cons_zero, List.set_cons_succ]
          refine anyT_take (i := 16) (some 61) (.pointer (some ⟨g1, n * 2, none⟩)) rfl rfl (by kernel_rfl) (by kernel_rfl) (by kernel_rfl) (fun _ _ _ h => h) (Or.inl ⟨by rfl, fun w _ => by first | rfl | (go_simp; done)⟩) (fun _ => hS0) ?_
          simp only [Act.put, List.setIfInBounds_toArray, List.set_cons_zero, List.set_cons_succ]
          refine anyT_take (i := 17) (some 62) (.pointer (some ⟨g1, n * 2 + 1, none⟩)) rfl rfl (by kernel_rfl) (by kernel_rfl) (by kernel_rfl) (fun _ _ _ h => h) (Or.inl ⟨by rfl, fun w _ => by first | rfl | (go_simp; done)⟩) (fun _ => hS0) ?_
          simp only [Act.put, List.setIfInBounds_toArray, List.set_cons_zero, List.set_cons_succ]
          refine anyT_takeS (i := 6) (some 51) (.int .i64 xa) [23, 26] rfl rfl (by kernel_rfl) (by kernel_rfl) (by kernel_rfl) (fun _ _ _ h => h) (Or.inl ⟨by rfl, fun w hSw => by (try dsimp only at hSw); obtain ⟨s0, s1⟩ := hSw; go_simp⟩) (fun _ => hS0) ?_
          simp only [Act.put, List.setIfInBounds_toArray, List.set_cons_zero, List.set_cons_succ]
          refine anyT_takeS (i := 11) (some 56) (.int .i64 xb) [23, 26] rfl rfl (by kernel_rfl) (by kernel_rfl) (by kernel_rfl) (fun _ _ _ h => h) (Or.inl ⟨by rfl, fun w hSw => by (try dsimp only at hSw); obtain ⟨s0, s1⟩ := hSw; go_simp⟩) (fun _ => hS0) ?_
          simp only [Act.put, List.setIfInBounds_toArray, List.set_cons_zero, List.set_cons_succ]
          refine anyT_takeS (i := 18) (some 63) (.int .i64 xb) [23, 26] rfl rfl (by kernel_rfl) (by kernel_rfl) (by kernel_rfl) (fun _ _ _ h => h) (Or.inl ⟨by rfl, fun w hSw => by (try dsimp only at hSw); obtain ⟨s0, s1⟩ := hSw; go_simp⟩) (fun _ => hS0) ?_
          simp only [Act.put, List.setIfInBounds_toArray, List.set_cons_zero, List.set_cons_succ]
          refine anyT_take (i := 7) (some 52) (.int .i64 xm) rfl rfl (by kernel_rfl) (by kernel_rfl) (by kernel_rfl) (fun _ _ _ h => h) (Or.inl ⟨by rfl, fun w _ => by first | rfl | (go_simp; done)⟩) (fun _ => hS0) ?_
          simp only [Act.put, List.setIfInBounds_toArray, List.set_cons_zero, List.set_cons_succ]
          refine anyT_ready (rs := [12, 19]) (by kernel_rfl) (by simp) (AllT.cons (o := ⟨_, _, _, _, _, _⟩) rfl (fun K hK => ?_) (AllT.cons (o := ⟨_, _, _, _, _, _⟩) rfl (fun K hK => ?_) AllT.nil))
          · go_simp
            have hP := Blk.new W0 3 #[.int .i64 xm, .int .i64 (-1), .int .i64 xb]
            have hk1 := hk0.alloc (.cells #[.int .i64 xm, .int .i64 (-1), .int .i64 xb] 3)
            refine hK.out _ _ (fun _ => HCW.out _ hk1.ow) (fun hS1 => ?_)
            clear hK K
            have hneP : W0.heap.size ≠ g := by have := hk0.s.lt; omega
            try (have hQ' := hQ.alloc (.cells #[.int .i64 xm, .int .i64 (-1), .int .i64 xb] 3); clear hQ; have hQ := hQ'; clear hQ')
            clear hk0
            generalize W0.alloc (.cells #[.int .i64 xm, .int .i64 (-1), .int .i64 xb] 3) = W1 at *
            generalize W0.heap.size = BP at *
            try simp only [Act.put, List.setIfInBounds_toArray, List.set_cons_zero, List.set_cons_succ]
            refine anyT_ready (rs := [13, 19]) (by kernel_rfl) (by simp) (AllT.cons (o := ⟨_, _, _, _, _, _⟩) rfl (fun K hK => ?_) (AllT.cons (o := ⟨_, _, _, _, _, _⟩) rfl (fun K hK => ?_) AllT.nil))
            · go_simp
              refine (HP1.out _ _ hk1.s hP hneP).mono ?_
              rintro e W2 ⟨rfl, hq⟩
              have hk2 := hk1.went hq
              try (have hQ' := Blk.but hQ hq.2 hneQ; clear hQ; have hQ := hQ'; clear hQ')
              refine hK.out _ _ (fun _ => HCW.out _ hk2.ow) (fun hS2 => ?_)
              clear hK K hq hk1
              try simp only [Act.put, List.setIfInBounds_toArray, List.set_cons_zero, List.set_cons_succ]
              refine anyT_ready (rs := [19]) (by kernel_rfl) (by simp) (AllT.cons (o := ⟨_, _, _, _, _, _⟩) rfl (fun K hK => ?_) AllT.nil)
              go_simp
              have hQ := Blk.new W2 3 #[.int .i64 xb, .int .i64 345686400000, .int .i64 345686400001]
              have hk3 := hk2.alloc (.cells #[.int .i64 xb, .int .i64 345686400000, .int .i64 345686400001] 3)
              refine hK.out _ _ (fun _ => HCW.out _ hk3.ow) (fun hS3 => ?_)
              clear hK K
              have hneQ : W2.heap.size ≠ g := by have := hk2.s.lt; omega
              try (have hP' := hP.alloc (.cells #[.int .i64 xb, .int .i64 345686400000, .int .i64 345686400001] 3); clear hP; have hP := hP'; clear hP')
              clear hk2
              generalize W2.alloc (.cells #[.int .i64 xb, .int .i64 345686400000, .int .i64 345686400001] 3) = W3 at *
              generalize W2.heap.size = BQ at *
              try simp only [Act.put, List.setIfInBounds_toArray, List.set_cons_zero, List.set_cons_succ]
              refine anyT_ready (rs := [20]) (by kernel_rfl) (by simp) (AllT.cons (o := ⟨_, _, _, _, _, _⟩) rfl (fun K hK => ?_) AllT.nil)
              go_simp
              refine (HP2.out _ _ hk3.s hQ hneQ).mono ?_
              rintro e W4 ⟨rfl, hq⟩
              have hk4 := hk3.went hq
              skip
              refine hK.out _ _ (fun _ => HCW.out _ hk4.ow) (fun hS4 => ?_)
              clear hK K hq hk3
              try simp only [Act.put, List.setIfInBounds_toArray, List.set_cons_zero, List.set_cons_succ]
              refine anyT_take (i := 21) (some 66) (.pointer (some ⟨g1, n * 2, none⟩)) rfl rfl (by kernel_rfl) (by kernel_rfl) (by kernel_rfl) (fun _ _ _ h => h) (Or.inl ⟨by rfl, fun w _ => by first | rfl | (go_simp; done)⟩) (fun _ => HCW.out _ hk4.ow) ?_
              simp only [Act.put, List.setIfInBounds_toArray, List.set_cons_zero, List.set_cons_succ]
              refine anyT_take (i := 22) (some 67) (.pointer (some ⟨g1, n * 2, none⟩)) rfl rfl (by kernel_rfl) (by kernel_rfl) (by kernel_rfl) (fun _ _ _ h => h) (Or.inl ⟨by rfl, fun w _ => by first | rfl | (go_simp; done)⟩) (fun _ => HCW.out _ hk4.ow) ?_
              simp only [Act.put, List.setIfInBounds_toArray, List.set_cons_zero, List.set_cons_succ]
              have f0 := hk4.ow.frozenAt (n * 2)
              have f1 := hk4.ow.frozenAt (n * 2 + 1)
              obtain ⟨s0, s1⟩ := HCW.out _ hk4.ow
              have hw7 : Went w g L A cap (k + 2 + 2 * xs.length + 4) W4 := ⟨hk4.s, hk4.bt⟩
              have hfin := HPT.out W4 (r1, r2) hk4.ow
              have hwf := (hw7.setAt hlt0 (p := ⟨g1, n * 2, none⟩) (by exact hg1) (.int .i64 r1)).setAt hlt0 (p := ⟨g1, n * 2 + 1, none⟩) (by exact hg1) (.int .i64 r2)
              have HFIN := Lib.hid hfin
              clear hfin
              refine anyT_ready (rs := [23]) (by kernel_rfl) (by simp) (AllT.cons (o := ⟨_, _, _, _, _, _⟩) rfl (fun K hK => ?_) AllT.nil)
              go_simp
              refine hK.out _ _ (someUp_no (by kernel_rfl)) (fun hS5 => ?_)
              clear hK K hS5
              try simp only [Act.put, List.setIfInBounds_toArray, List.set_cons_zero, List.set_cons_succ]
              refine anyT_take (i := 24) (some 68) (.pointer (some ⟨g1, n * 2, none⟩)) rfl rfl (by kernel_rfl) (by kernel_rfl) (by kernel_rfl) (fun _ _ _ h => h) (Or.inl ⟨by rfl, fun w _ => by first | rfl | (go_simp; done)⟩) (someUp_no (by kernel_rfl)) ?_
              simp only [Act.put, List.setIfInBounds_toArray, List.set_cons_zero, List.set_cons_succ]
              refine anyT_take (i := 25) (some 69) (.pointer (some ⟨g1, n * 2 + 1, none⟩)) rfl rfl (by kernel_rfl) (by kernel_rfl) (by kernel_rfl) (fun _ _ _ h => h) (Or.inl ⟨by rfl, fun w _ => by first | rfl | (go_simp; done)⟩) (someUp_no (by kernel_rfl)) ?_
              simp only [Act.put, List.setIfInBounds_toArray, List.set_cons_zero, List.set_cons_succ]
              have s1' : (W4.setCell ⟨g1, n * 2, none⟩ (.int .i64 r1)).cell? ⟨g1, n * 2 + 1, none⟩ = some (.int .i64 xb) := by rw [World.cell?_setCell_other _ _ _ _ (by intro h; simp only [Addr.mk.injEq] at h; omega)]; exact s1
              refine anyT_ready (rs := [26]) (by kernel_rfl) (by simp) (AllT.cons (o := ⟨_, _, _, _, _, _⟩) rfl (fun K hK => ?_) AllT.nil)
              go_simp
              refine hK.out _ _ (someUp_no (by kernel_rfl)) (fun hS6 => ?_)
              clear hK K hS6
              refine anyT_done (by kernel_rfl) ?_ _
              clear s0 s1 s1' f0 f1 hk4 hw7
              go_wp2_with fail
              go_ret
              exact ⟨_, xs.set n (r1, r2), _, rfl, (by have h := Rd.of_own HFIN.out; simpa [RdWdw] using h), by simp; omega, by omega, hwf⟩
            · go_simp
              have hQ := Blk.new W1 3 #[.int .i64 xb, .int .i64 345686400000, .int .i64 345686400001]
              have hk2 := hk1.alloc (.cells #[.int .i64 xb, .int .i64 345686400000, .int .i64 345686400001] 3)
              refine hK.out _ _ (fun _ => HCW.out _ hk2.ow) (fun hS2 => ?_)
              clear hK K
              have hneQ : W1.heap.size ≠ g := by have := hk1.s.lt; omega
              try (have hP' := hP.alloc (.cells #[.int .i64 xb, .int .i64 345686400000, .int .i64 345686400001] 3); clear hP; have hP := hP'; clear hP')
              clear hk1
              generalize W1.alloc (.cells #[.int .i64 xb, .int .i64 345686400000, .int .i64 345686400001] 3) = W2 at *
              generalize W1.heap.size = BQ at *
              try simp only [Act.put, List.setIfInBounds_toArray, List.set_cons_zero, List.set_cons_succ]
              refine anyT_ready (rs := [13]) (by kernel_rfl) (by simp) (AllT.cons (o := ⟨_, _, _, _, _, _⟩) rfl (fun K hK => ?_) AllT.nil)
              go_simp
              refine (HP1.out _ _ hk2.s hP hneP).mono ?_
              rintro e W3 ⟨rfl, hq⟩
              have hk3 := hk2.went hq
              try (have hQ' := Blk.but hQ hq.2 hneQ; clear hQ; have hQ := hQ'; clear hQ')
              refine hK.out _ _ (fun _ => HCW.out _ hk3.ow) (fun hS3 => ?_)
              clear hK K hq hk2
              try simp only [Act.put, List.setIfInBounds_toArray, List.set_cons_zero, List.set_cons_succ]
              refine anyT_ready (rs := [20]) (by kernel_rfl) (by simp) (AllT.cons (o := ⟨_, _, _, _, _, _⟩) rfl (fun K hK => ?_) AllT.nil)
              go_simp
              refine (HP2.out _ _ hk3.s hQ hneQ).mono ?_
              rintro e W4 ⟨rfl, hq⟩
              have hk4 := hk3.went hq
              skip
              refine hK.out _ _ (fun _ => HCW.out _ hk4.ow) (fun hS4 => ?_)
              clear hK K hq hk3
              try simp only [Act.put, List.setIfInBounds_toArray, List.set_cons_zero, List.set_cons_succ]
              refine anyT_take (i := 21) (some 66) (.pointer (some ⟨g1, n * 2, none⟩)) rfl rfl (by kernel_rfl) (by kernel_rfl) (by kernel_rfl) (fun _ _ _ h => h) (Or.inl ⟨by rfl, fun w _ => by first | rfl | (go_simp; done)⟩) (fun _ => HCW.out _ hk4.ow) ?_
              simp only [Act.put, List.setIfInBounds_toArray, List.set_cons_zero, List.set_cons_succ]
              refine anyT_take (i := 22) (some 67) (.pointer (some ⟨g1, n * 2, none⟩)) rfl rfl (by kernel_rfl) (by kernel_rfl) (by kernel_rfl) (fun _ _ _ h => h) (Or.inl ⟨by rfl, fun w _ => by first | rfl | (go_simp; done)⟩) (fun _ => HCW.out _ hk4.ow) ?_
              simp only [Act.put, List.setIfInBounds_toArray, List.set_cons_zero, List.set_cons_succ]
              have f0 := hk4.ow.frozenAt (n * 2)
              have f1 := hk4.ow.frozenAt (n * 2 + 1)
              obtain ⟨s0, s1⟩ := HCW.out _ hk4.ow
              have hw7 : Went w g L A cap (k + 2 + 2 * xs.length + 4) W4 := ⟨hk4.s, hk4.bt⟩
              have hfin := HPT.out W4 (r1, r2) hk4.ow
              have hwf := (hw7.setAt hlt0 (p := ⟨g1, n * 2, none⟩) (by exact hg1) (.int .i64 r1)).setAt hlt0 (p := ⟨g1, n * 2 + 1, none⟩) (by exact hg1) (.int .i64 r2)
              have HFIN := Lib.hid hfin
              clear hfin
              refine anyT_ready (rs := [23]) (by kernel_rfl) (by simp) (AllT.cons (o := ⟨_, _, _, _, _, _⟩) rfl (fun K hK => ?_) AllT.nil)
              go_simp
              refine hK.out _ _ (someUp_no (by kernel_rfl)) (fun hS5 => ?_)
              clear hK K hS5
              try simp only [Act.put, List.setIfInBounds_toArray, List.set_cons_zero, List.set_cons_succ]
              refine anyT_take (i := 24) (some 68) (.pointer (some ⟨g1, n * 2, none⟩)) rfl rfl (by kernel_rfl) (by kernel_rfl) (by kernel_rfl) (fun _ _ _ h => h) (Or.inl ⟨by rfl, fun w _ => by first | rfl | (go_simp; done)⟩) (someUp_no (by kernel_rfl)) ?_
              simp only [Act.put, List.setIfInBounds_toArray, List.set_cons_zero, List.set_cons_succ]
              refine anyT_take (i := 25) (some 69) (.pointer (some ⟨g1, n * 2 + 1, none⟩)) rfl rfl (by kernel_rfl) (by kernel_rfl) (by kernel_rfl) (fun _ _ _ h => h) (Or.inl ⟨by rfl, fun w _ => by first | rfl | (go_simp; done)⟩) (someUp_no (by kernel_rfl)) ?_
              simp only [Act.put, List.setIfInBounds_toArray, List.set_cons_zero, List.set_cons_succ]
              have s1' : (W4.setCell ⟨g1, n * 2, none⟩ (.int .i64 r1)).cell? ⟨g1, n * 2 + 1, none⟩ = some (.int .i64 xb) := by rw [World.cell?_setCell_other _ _ _ _ (by intro h; simp only [Addr.mk.injEq] at h; omega)]; exact s1
              refine anyT_ready (rs := [26]) (by kernel_rfl) (by simp) (AllT.cons (o := ⟨_, _, _, _, _, _⟩) rfl (fun K hK => ?_) AllT.nil)
              go_simp
              refine hK.out _ _ (someUp_no (by kernel_rfl)) (fun hS6 => ?_)
              clear hK K hS6
              refine anyT_done (by kernel_rfl) ?_ _
              clear s0 s1 s1' f0 f1 hk4 hw7
              go_wp2_with fail
              go_ret
              exact ⟨_, xs.set n (r1, r2), _, rfl, (by have h := Rd.of_own HFIN.out; simpa [RdWdw] using h), by simp; omega, by omega, hwf⟩
          · go_simp
            have hQ := Blk.new W0 3 #[.int .i64 xb, .int .i64 345686400000, .int .i64 345686400001]
            have hk1 := hk0.alloc (.cells #[.int .i64 xb, .int .i64 345686400000, .int .i64 345686400001] 3)
            refine hK.out _ _ (fun _ => HCW.out _ hk1.ow) (fun hS1 => ?_)
            clear hK K
            have hneQ : W0.heap.size ≠ g := by have := hk0.s.lt; omega
            try (have hP' := hP.alloc (.cells #[.int .i64 xb, .int .i64 345686400000, .int .i64 345686400001] 3); clear hP; have hP := hP'; clear hP')
            clear hk0
            generalize W0.alloc (.cells #[.int .i64 xb, .int .i64 345686400000, .int .i64 345686400001] 3) = W1 at *
            generalize W0.heap.size = BQ at *
            try simp only [Act.put, List.setIfInBounds_toArray, List.set_cons_zero, List.set_cons_succ]
            refine anyT_ready (rs := [12]) (by kernel_rfl) (by simp) (AllT.cons (o := ⟨_, _, _, _, _, _⟩) rfl (fun K hK => ?_) AllT.nil)
            go_simp
            have hP := Blk.new W1 3 #[.int .i64 xm, .int .i64 (-1), .int .i64 xb]
            have hk2 := hk1.alloc (.cells #[.int .i64 xm, .int .i64 (-1), .int .i64 xb] 3)
            refine hK.out _ _ (fun _ => HCW.out _ hk2.ow) (fun hS2 => ?_)
            clear hK K
            have hneP : W1.heap.size ≠ g := by have := hk1.s.lt; omega
            try (have hQ' := hQ.alloc (.cells #[.int .i64 xm, .int .i64 (-1), .int .i64 xb] 3); clear hQ; have hQ := hQ'; clear hQ')
            clear hk1
            generalize W1.alloc (.cells #[.int .i64 xm, .int .i64 (-1), .int .i64 xb] 3) = W2 at *
            generalize W1.heap.size = BP at *
            try simp only [Act.put, List.setIfInBounds_toArray, List.set_cons_zero, List.set_cons_succ]
            refine anyT_ready (rs := [13]) (by kernel_rfl) (by simp) (AllT.cons (o := ⟨_, _, _, _, _, _⟩) rfl (fun K hK => ?_) AllT.nil)
            go_simp
            refine (HP1.out _ _ hk2.s hP hneP).mono ?_
            rintro e W3 ⟨rfl, hq⟩
            have hk3 := hk2.went hq
            try (have hQ' := Blk.but hQ hq.2 hneQ; clear hQ; have hQ := hQ'; clear hQ')
            refine hK.out _ _ (fun _ => HCW.out _ hk3.ow) (fun hS3 => ?_)
            clear hK K hq hk2
            try simp only [Act.put, List.setIfInBounds_toArray, List.set_cons_zero, List.set_cons_succ]
            refine anyT_ready (rs := [20]) (by kernel_rfl) (by simp) (AllT.cons (o := ⟨_, _, _, _, _, _⟩) rfl (fun K hK => ?_) AllT.nil)
            go_simp
            refine (HP2.out _ _ hk3.s hQ hneQ).mono ?_
            rintro e W4 ⟨rfl, hq⟩
            have hk4 := hk3.went hq
            skip
            refine hK.out _ _ (fun _ => HCW.out _ hk4.ow) (fun hS4 => ?_)
            clear hK K hq hk3
            try simp only [Act.put, List.setIfInBounds_toArray, List.set_cons_zero, List.set_cons_succ]
            refine anyT_take (i := 21) (some 66) (.pointer (some ⟨g1, n * 2, none⟩)) rfl rfl (by kernel_rfl) (by kernel_rfl) (by kernel_rfl) (fun _ _ _ h => h) (Or.inl ⟨by rfl, fun w _ => by first | rfl | (go_simp; done)⟩) (fun _ => HCW.out _ hk4.ow) ?_
            simp only [Act.put, List.setIfInBounds_toArray, List.set_cons_zero, List.set_cons_succ]
            refine anyT_take (i := 22) (some 67) (.pointer (some ⟨g1, n * 2, none⟩)) rfl rfl (by kernel_rfl) (by kernel_rfl) (by kernel_rfl) (fun _ _ _ h => h) (Or.inl ⟨by rfl, fun w _ => by first | rfl | (go_simp; done)⟩) (fun _ => HCW.out _ hk4.ow) ?_
            simp only [Act.put, List.setIfInBounds_toArray, List.set_cons_zero, List.set_cons_succ]
            have f0 := hk4.ow.frozenAt (n * 2)
            have f1 := hk4.ow.frozenAt (n * 2 + 1)
            obtain ⟨s0, s1⟩ := HCW.out _ hk4.ow
            have hw7 : Went w g L A cap (k + 2 + 2 * xs.length + 4) W4 := ⟨hk4.s, hk4.bt⟩
            have hfin := HPT.out W4 (r1, r2) hk4.ow
            have hwf := (hw7.setAt hlt0 (p := ⟨g1, n * 2, none⟩) (by exact hg1) (.int .i64 r1)).setAt hlt0 (p := ⟨g1, n * 2 + 1, none⟩) (by exact hg1) (.int .i64 r2)
            have HFIN := Lib.hid hfin
            clear hfin
            refine anyT_ready (rs := [23]) (by kernel_rfl) (by simp) (AllT.cons (o := ⟨_, _, _, _, _, _⟩) rfl (fun K hK => ?_) AllT.nil)
            go_simp
            refine hK.out _ _ (someUp_no (by kernel_rfl)) (fun hS5 => ?_)
            clear hK K hS5
            try simp only [Act.put, List.setIfInBounds_toArray, List.set_cons_zero, List.set_cons_succ]
            refine anyT_take (i := 24) (some 68) (.pointer (some ⟨g1, n * 2, none⟩)) rfl rfl (by kernel_rfl) (by kernel_rfl) (by kernel_rfl) (fun _ _ _ h => h) (Or.inl ⟨by rfl, fun w _ => by first | rfl | (go_simp; done)⟩) (someUp_no (by kernel_rfl)) ?_
            simp only [Act.put, List.setIfInBounds_toArray, List.set_cons_zero, List.set_cons_succ]
            refine anyT_take (i := 25) (some 69) (.pointer (some ⟨g1, n * 2 + 1, none⟩)) rfl rfl (by kernel_rfl) (by kernel_rfl) (by kernel_rfl) (fun _ _ _ h => h) (Or.inl ⟨by rfl, fun w _ => by first | rfl | (go_simp; done)⟩) (someUp_no (by kernel_rfl)) ?_
            simp only [Act.put, List.setIfInBounds_toArray, List.set_cons_zero, List.set_cons_succ]
            have s1' : (W4.setCell ⟨g1, n * 2, none⟩ (.int .i64 r1)).cell? ⟨g1, n * 2 + 1, none⟩ = some (.int .i64 xb) := by rw [World.cell?_setCell_other _ _ _ _ (by intro h; simp only [Addr.mk.injEq] at h; omega)]; exact s1
            refine anyT_ready (rs := [26]) (by kernel_rfl) (by simp) (AllT.cons (o := ⟨_, _, _, _, _, _⟩) rfl (fun K hK => ?_) AllT.nil)
            go_simp
            refine hK.out _ _ (someUp_no (by kernel_rfl)) (fun hS6 => ?_)
            clear hK K hS6
            refine anyT_done (by kernel_rfl) ?_ _
            clear s0 s1 s1' f0 f1 hk4 hw7
            go_wp2_with fail
            go_ret
            exact ⟨_, xs.set n (r1, r2), _, rfl, (by have h := Rd.of_own HFIN.out; simpa [RdWdw] using h), by simp; omega, by omega, hwf⟩
        · have hF' : (nxt L (k + 2 + 2 * xs.length) 12 == 0) = false := by simpa using hF
          have hw5 : Went w g L A cap (k + 2 + 2 * xs.length + 1) w4 := ⟨hk4.s, hk4.bt⟩
          clear hF
          go_wp2_with fail
          go_ret
          exact ⟨_, xs, _, rfl, Rd.of_own hk4.ow, by omega, by omega, hw5⟩
end Go.Proofs.Ytdacdiigeainmaa
