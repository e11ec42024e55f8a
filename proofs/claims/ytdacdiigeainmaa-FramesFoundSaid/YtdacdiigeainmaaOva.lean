/- OverlapsOf (the reference), for right frames. -/
import Derived.Test.YtdacdiigeainmaaOvm
import Derived.Test.YtdacdiigeainmaaAbm
import Derived.Test.YtdacdiigeainmaaFrof
import Derived.Test.YtdacdiigeainmaaAbv
import Derived.Deep.DeepCutAuto
namespace Go.Proofs.Ytdacdiigeainmaa
open Go.RowKit
set_option linter.unusedVariables false
set_option linter.unusedSimpArgs false

theorem blk_grown {w w' : World} {row : Option Nat} {b : Nat} {t : TypeId} {cs : Array Value} (hg : w.grownBy w' row) (hb : Blk w b t cs) (hne : row ≠ some b) : Blk w' b t cs := by
  exact (hg.block b hb.lt (fun e => hne e.symm)).trans hb
theorem win_eq (w : World) {a b c d : Int} {t : TypeId} (h1 : a = c) (h2 : b = d) : w.alloc (.cells #[.int .i64 a, .int .i64 b] t) = w.alloc (.cells #[.int .i64 c, .int .i64 d] t) := by rw [h1, h2]
/-- A row of windows, and the boxes that are not its own. -/
theorem StW.grown2 {w1 w w' : World} {o o' : Value} {out : List (Int × Int)} (h : StW w1 o out w) (x : Int × Int) (hg : w.grownBy w' o.ownBlock) (ho : w'.ownsRow w1.heap.size 49 2 o' (out.length + 1) (wdwCells (out ++ [x])))
    (hw : ∀ k, o'.ownBlock = some k → o.ownBlock = some k ∨ w.heap.size ≤ k) {b : Nat} {cs : Array Value} (hb : Blk w b 49 cs) (hne : o.ownBlock ≠ some b) :
    StW w1 o' (out ++ [x]) w' ∧ Blk w' b 49 cs ∧ o'.ownBlock ≠ some b := by
  refine ⟨h.grown x hg ho, blk_grown hg hb hne, fun e => ?_⟩
  rcases hw b e with h1 | h1
  · exact hne h1
  · have := hb.lt; omega

/-- What was found up to pair i, j. -/
def ovI (a b : List (Int × Int)) (i j : Nat) : List (Int × Int) := ((a.take i).flatMap fun x => b.flatMap fun y => ovl x y) ++ (b.take j).flatMap fun y => ovl (atW a i) y
theorem ovI_next (a b : List (Int × Int)) (i j : Nat) (hj : j < b.length) : ovI a b i (j + 1) = ovI a b i j ++ ovl (atW a i) (atW b j) := by
  unfold ovI
  rw [List.take_succ_eq_append_getElem hj, List.flatMap_append, List.append_assoc, atW_eq b j hj]
  simp
theorem ovI_row (a b : List (Int × Int)) (i : Nat) (hi : i < a.length) : ovI a b i b.length = ovI a b (i + 1) 0 := by
  unfold ovI
  rw [List.take_succ_eq_append_getElem hi, List.flatMap_append, List.take_length, List.take_zero, atW_eq a i hi]
  simp
theorem ovI_end (a b : List (Int × Int)) : ovI a b a.length 0 = ovA a b := by
  unfold ovI ovA
  simp
theorem one_len {c : Prop} [Decidable c] (z : Int × Int) : (if c then [z] else []).length ≤ 1 := by split <;> simp
theorem ovl_len (x y : Int × Int) : (ovl x y).length ≤ 1 := one_len _
theorem one_mem {c : Prop} [Decidable c] {z w : Int × Int} (h : w ∈ if c then [z] else []) : c ∧ w = z := by
  by_cases hc : c
  · rw [if_pos hc] at h; exact ⟨hc, List.mem_singleton.1 h⟩
  · rw [if_neg hc] at h; cases h
theorem ovI_len (a b : List (Int × Int)) (i j : Nat) (hi : i ≤ a.length) (hj : j ≤ b.length) : (ovI a b i j).length ≤ i * b.length + j := by
  have h1 : ∀ (x : Int × Int) (n : Nat), n ≤ b.length → ((b.take n).flatMap fun y => ovl x y).length ≤ n := fun x n => by
    induction n with
    | zero => intro _; simp
    | succ n ih =>
      intro hn
      rw [List.take_succ_eq_append_getElem (by omega), List.flatMap_append, List.length_append]
      have := ih (by omega)
      have := ovl_len x b[n]
      have e : [b[n]].flatMap (fun y => ovl x y) = ovl x b[n] := by simp
      rw [e]
      omega
  have h2 : ∀ n, n ≤ a.length → ((a.take n).flatMap fun x => b.flatMap fun y => ovl x y).length ≤ n * b.length := fun n => by
    induction n with
    | zero => intro _; simp
    | succ n ih =>
      intro hn
      rw [List.take_succ_eq_append_getElem (by omega), List.flatMap_append, List.length_append]
      have := ih (by omega)
      have h3 := h1 a[n] b.length (Nat.le_refl _)
      rw [List.take_length] at h3
      have h4 : (n + 1) * b.length = n * b.length + b.length := Nat.succ_mul n b.length
      have e : [a[n]].flatMap (fun x => b.flatMap fun y => ovl x y) = b.flatMap fun y => ovl a[n] y := by simp
      rw [e]
      omega
  unfold ovI
  rw [List.length_append]
  have := h2 i hi
  have := h1 (atW a i) j hj
  omega
theorem ovl_in {x y z : Int × Int} (hx : 0 ≤ x.1 ∧ x.1 < x.2 ∧ x.2 ≤ 345686400000) (hy : 0 ≤ y.1 ∧ y.1 < y.2 ∧ y.2 ≤ 345686400000) (hz : z ∈ ovl x y) : 0 ≤ z.1 ∧ z.1 < z.2 ∧ z.2 ≤ 345686400000 := by
  obtain ⟨h, rfl⟩ := one_mem hz
  simp only
  refine ⟨?_, h, ?_⟩
  · split <;> omega
  · split <;> omega
theorem ovI_in {a b : List (Int × Int)} (ha : ∀ y ∈ a, 0 ≤ y.1 ∧ y.1 < y.2 ∧ y.2 ≤ 345686400000) (hb : ∀ y ∈ b, 0 ≤ y.1 ∧ y.1 < y.2 ∧ y.2 ≤ 345686400000) (i j : Nat) (hi : i < a.length ∨ j = 0) : ∀ z ∈ ovI a b i j, 0 ≤ z.1 ∧ z.1 < z.2 ∧ z.2 ≤ 345686400000 := by
  intro z hz
  unfold ovI at hz
  rcases List.mem_append.1 hz with hz | hz
  · obtain ⟨x, hx, hz⟩ := List.mem_flatMap.1 hz
    obtain ⟨y, hy, hz⟩ := List.mem_flatMap.1 hz
    exact ovl_in (ha x (List.mem_of_mem_take hx)) (hb y hy) hz
  · obtain ⟨y, hy, hz⟩ := List.mem_flatMap.1 hz
    rcases hi with hi | hi
    · exact ovl_in (ha (atW a i) (by rw [← atW_eq a i hi]; exact List.getElem_mem _)) (hb y (List.mem_of_mem_take hy)) hz
    · subst hi; simp at hy

set_option maxRecDepth 100000 in
set_option maxHeartbeats 8000000 in
theorem overlapsOf_any (va vb : Value) (a b : List (Int × Int)) (w : World) (hA : RdWdw w va a) (hB : RdWdw w vb b) (hla : a.length ≤ 50) (hlb : b.length ≤ 50)
    (ha : ∀ y ∈ a, 0 ≤ y.1 ∧ y.1 < y.2 ∧ y.2 ≤ 345686400000) (hb : ∀ y ∈ b, 0 ≤ y.1 ∧ y.1 < y.2 ∧ y.2 ≤ 345686400000) :
    Calls Try.prog 18 #[va, vb] w fun e w' => ∃ vr, e = .returned (.tuple #[vr, .int .i64 (sumW2 (ovA a b))]) ∧ RdWdw w' vr (ovA a b) ∧ Below w.heap.size w w' := by
  obtain ⟨pa, ca, rfl⟩ := hA.lenv
  obtain ⟨pb, cb, rfl⟩ := hB.lenv
  have HA := Lib.hid hA
  have HB := Lib.hid hB
  have HN := Lib.hid (fun i j (hj : j < b.length) => ovI_next a b i j hj)
  have HRW := Lib.hid (fun i (hi : i < a.length) => ovI_row a b i hi)
  have HEN := Lib.hid (ovI_end a b)
  have HLN := Lib.hid (fun i j (hi : i ≤ a.length) (hj : j ≤ b.length) => (show (ovI a b i j).length ≤ 2550 by
    have h1 := ovI_len a b i j hi hj
    have h2 : i * b.length ≤ 50 * 50 := Nat.mul_le_mul (by omega) (by omega)
    omega))
  have HSB := Lib.hid (fun i j (hi : i < a.length ∨ j = 0) => sumW2_bound (ovI_in ha hb i j hi))
  have HIA := Lib.hid (fun i (hi : i < a.length) => (show 0 ≤ (atW a i).1 ∧ (atW a i).1 < (atW a i).2 ∧ (atW a i).2 ≤ 345686400000 by rw [← atW_eq a i hi]; exact ha _ (List.getElem_mem _)))
  have HIB := Lib.hid (fun j (hj : j < b.length) => (show 0 ≤ (atW b j).1 ∧ (atW b j).1 < (atW b j).2 ∧ (atW b j).2 ≤ 345686400000 by rw [← atW_eq b j hj]; exact hb _ (List.getElem_mem _)))
  have H00 := Lib.hid (show ovI a b 0 0 = [] by simp [ovI])
  clear hA hB ha hb
  go_enter Try.func18, Try.ntmps18
  go_wp2_with fail
  go_loopw [6, 7, 15] (fun o s i wr => ∃ k : Nat, k ≤ a.length ∧ i = .int .i64 (k : Int) ∧ s = .int .i64 (sumW2 (ovI a b k 0)) ∧ StW w o (ovI a b k 0) wr) (fun _ _ i _ => a.length - (intOf i).toNat)
  case atStart => exact ⟨0, by omega, rfl, by rw [H00.out]; rfl, by rw [H00.out]; exact ⟨World.ownsRow_nil _ _ _ _, Below.refl _ _⟩⟩
  case round =>
    obtain ⟨k, hk, rfl, rfl, hst⟩ := hrel
    by_cases hlt : k < a.length
    · have hRa : RdWdw wr _ a := Rd.below HA.out hst.bl
      obtain ⟨b1, off, c, hv, hc1, hc2, hblt, hcell⟩ := RdWdw.at_ hRa (by omega)
      cases hv
      unfold maxLen at hc2
      obtain ⟨c0, c1⟩ := hcell k hlt
      have hxb := HIA.out k hlt
      have hbx := Blk.new wr 49 #[.int .i64 (atW a k).1, .int .i64 (atW a k).2]
      have hst2 := hst.alloc (.cells #[.int .i64 (atW a k).1, .int .i64 (atW a k).2] 49)
      have hox := own_lt hst.own
      clear hcell hRa hst
      go_upto_region 6 with fail
      generalize wr.alloc (.cells #[.int .i64 (atW a k).1, .int .i64 (atW a k).2] 49) = wm at *
      generalize wr.heap.size = P at *
      clear c0 c1
      have HNK := Lib.hid (fun j hj => HN.out k j hj)
      have HRK := Lib.hid (HRW.out k hlt)
      have HLK := Lib.hid (fun j hj => HLN.out k j hk hj)
      have HSK := Lib.hid (fun j => HSB.out k j (.inl hlt))
      generalize atW a k = x at *
      obtain ⟨xa, xb⟩ := x
      simp only at hxb hbx hst2
      clear HN HRW HLN HSB HIA
      go_wp2_with fail
      go_loopw [6, 7, 21] (fun o s i wr => ∃ q : Nat, q ≤ b.length ∧ i = .int .i64 (q : Int) ∧ s = .int .i64 (sumW2 (ovI a b k q)) ∧ StW w o (ovI a b k q) wr ∧ Blk wr P 49 #[.int .i64 xa, .int .i64 xb] ∧ o.ownBlock ≠ some P) (fun _ _ i _ => b.length - (intOf i).toNat)
      case atStart => exact ⟨0, by omega, rfl, rfl, hst2, hbx, fun e => hox e.symm⟩
      case round =>
        clear hst2 hbx hox
        obtain ⟨q, hq, rfl, rfl, hst, hbx, hne⟩ := hrel
        by_cases hqt : q < b.length
        · have hRb : RdWdw wr _ b := Rd.below HB.out hst.bl
          obtain ⟨b2, off2, c2, hv, hd1, hd2, hblt2, hcell⟩ := RdWdw.at_ hRb (by omega)
          cases hv
          unfold maxLen at hd2
          obtain ⟨c0, c1⟩ := hcell q hqt
          have hyb := HIB.out q hqt
          have hnx := HNK.out q hqt
          have hln := HLK.out q hq
          have hsb := HSK.out q
          generalize ovI a b k q = out at *
          generalize atW b q = y at *
          obtain ⟨ya, yb⟩ := y
          simp only at hyb c0 c1
          have hby := Blk.new wr 49 #[.int .i64 ya, .int .i64 yb]
          have hst2 := hst.alloc (.cells #[.int .i64 ya, .int .i64 yb] 49)
          have hbx2 := hbx.alloc (.cells #[.int .i64 ya, .int .i64 yb] 49)
          have HNX := Lib.hid hnx
          clear hcell hRb hst hbx hnx
          go_upto_region 9 with fail
          generalize wr.alloc (.cells #[.int .i64 ya, .int .i64 yb] 49) = wm2 at *
          generalize wr.heap.size = B2 at *
          clear c0 c1
          have x0 := hbx2.cell 0
          have x1 := hbx2.cell 1
          have y0 := hby.cell 0
          have y1 := hby.cell 1
          obtain ⟨MX, hMX⟩ : ∃ m, m = if xa ≤ ya then ya else xa := ⟨_, rfl⟩
          obtain ⟨MN, hMN⟩ : ∃ m, m = if xb ≤ yb then xb else yb := ⟨_, rfl⟩
          have hov : ovl (xa, xb) (ya, yb) = if MX < MN then [(MX, MN)] else [] := by unfold ovl; simp only; rw [← hMX, ← hMN]
          have hMb : (0 ≤ MX ∧ MX ≤ 345686400000) ∧ 0 ≤ MN ∧ MN ≤ 345686400000 := by
            rw [hMX, hMN]
            split <;> split <;> omega
          have HMX := Lib.hid hMX
          have HMN := Lib.hid hMN
          have HOV := Lib.hid hov
          have HST := Lib.hid hst2
          have HBX := Lib.hid hbx2
          have hsz2 := hst2.bl.size
          have HOL := Lib.hid (own_lt hst2.own)
          clear hMX hMN hov hst2 hbx2 hby
          go_cut [12] (fun s12 wx => s12 = .pointer (some ⟨wm2.heap.size, 0, none⟩) ∧ wx = wm2.alloc (.cells #[.int .i64 MX, .int .i64 MN] 49))
          case first =>
            by_cases h1 : xa ≤ ya
            · have k1 := HMX.out
              rw [if_pos h1] at k1
              by_cases h2 : xb ≤ yb
              · have k2 := HMN.out
                rw [if_pos h2] at k2
                go_wp2_with fail
                all_goals go_meet
                all_goals exact ⟨rfl, win_eq _ (by omega) (by omega)⟩
              · have k2 := HMN.out
                rw [if_neg h2] at k2
                go_wp2_with fail
                all_goals go_meet
                all_goals exact ⟨rfl, win_eq _ (by omega) (by omega)⟩
            · have k1 := HMX.out
              rw [if_neg h1] at k1
              by_cases h2 : xb ≤ yb
              · have k2 := HMN.out
                rw [if_pos h2] at k2
                go_wp2_with fail
                all_goals go_meet
                all_goals exact ⟨rfl, win_eq _ (by omega) (by omega)⟩
              · have k2 := HMN.out
                rw [if_neg h2] at k2
                go_wp2_with fail
                all_goals go_meet
                all_goals exact ⟨rfl, win_eq _ (by omega) (by omega)⟩
          case rest =>
            obtain ⟨rfl, rfl⟩ := hcut
            have hq1 := Blk.new wm2 49 #[.int .i64 MX, .int .i64 MN]
            have hst3 := HST.out.alloc (.cells #[.int .i64 MX, .int .i64 MN] 49)
            have hbx3 := HBX.out.alloc (.cells #[.int .i64 MX, .int .i64 MN] 49)
            have hoQ := HOL.out
            clear HST HBX HOL x0 x1 y0 y1
            generalize wm2.alloc (.cells #[.int .i64 MX, .int .i64 MN] 49) = w5 at *
            generalize wm2.heap.size = Q at *
            have m0 := hq1.cell 0
            have m1 := hq1.cell 1
            by_cases hmm : MX < MN
            · have HE := Lib.hid (show ovI a b k (q + 1) = out ++ [(MX, MN)] by rw [HNX.out, HOV.out, if_pos hmm])
              have ho := hst3.alloc (.cells #[.int .i64 MX, .int .i64 MN] 49)
              have hbx4 := hbx3.alloc (.cells #[.int .i64 MX, .int .i64 MN] 49)
              have hq4 := hq1.alloc (.cells #[.int .i64 MX, .int .i64 MN] 49)
              have HO := Lib.hid ho
              have HX4 := Lib.hid hbx4
              have HQ4 := Lib.hid hq4
              have hso := ho.bl.size
              clear ho hbx4 hq4 hst3 hbx3 hq1
              have hlw : IntKind.i64.wrap (MN - MX) = MN - MX := IntWalk.i64_in _ (by omega)
              have hsw : IntKind.i64.wrap (sumW2 out + (MN - MX)) = sumW2 out + (MN - MX) := IntWalk.i64_in _ (by omega)
              have HLG := Lib.hid (fun W => rlongw_any MX MN W)
              rw [hlw] at HLG
              have HSN := Lib.hid (sumW2_snoc out (MX, MN))
              go_wp2_with (at_builtin; go_loud (refine wpList_append_wdw2 rfl (.tmp 41) (.tmp 43) rfl w.heap.size _ _ out rfl (by exact HO.out.own) w5.heap.size rfl (MX, MN) (by exact Blk.new _ _ _) (by omega) (by exact hso) ?_); intro v1 wd hown1 hgrow1 hwh1; have hQ6 := blk_grown hgrow1 HQ4.out (fun e => hoQ e.symm); have n0 := hQ6.cell 0; have n1 := hQ6.cell 1)
              obtain ⟨hS6, hX6, hn6⟩ := HO.out.grown2 _ hgrow1 hown1 hwh1 HX4.out hne
              refine (HLG.out _).mono ?_
              rintro e w6 ⟨rfl, hb6⟩
              have hS7 := hS6.step hb6
              have hX7 := hX6.below hb6 hX6.lt
              have HS7 := Lib.hid hS7
              have HX7 := Lib.hid hX7
              clear hown1 hgrow1 hwh1 hQ6 hS6 hX6 hb6 hS7 hX7 n0 n1
              go_wp2_with fail
              go_roundw
              case rel => exact ⟨q + 1, by omega, by go_num, by rw [HE.out, HSN.out], by rw [HE.out]; exact HS7.out, HX7.out, hn6⟩
              case measure => simp [intOf]; omega
            · have HE := Lib.hid (show ovI a b k (q + 1) = out by rw [HNX.out, HOV.out, if_neg hmm, List.append_nil])
              have HS3 := Lib.hid hst3
              have HX3 := Lib.hid hbx3
              have hmm' : MN ≤ MX := by omega
              clear hst3 hbx3 hq1 hmm
              go_wp2_with fail
              go_roundw
              case rel => exact ⟨q + 1, by omega, by go_num, by rw [HE.out], by rw [HE.out]; exact HS3.out, HX3.out, hne⟩
              case measure => simp [intOf]; omega
        · obtain rfl : q = b.length := by omega
          rw [HRK.out] at hst
          rw [HRK.out]
          have HST := Lib.hid hst
          clear hst hbx hne
          go_wp2_with fail
          go_roundw
          case rel => exact ⟨k + 1, by omega, by go_num, rfl, HST.out⟩
          case measure => simp [intOf]; omega
    · obtain rfl : k = a.length := by omega
      rw [HEN.out] at hst
      rw [HEN.out]
      go_wp2_with fail
      go_ret2
      exact ⟨_, rfl, Rd.of_own hst.own, hst.bl⟩
end Go.Proofs.Ytdacdiigeainmaa
