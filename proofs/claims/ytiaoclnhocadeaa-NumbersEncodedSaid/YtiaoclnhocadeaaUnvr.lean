/- The contract of the reference's UnvarintOf. -/
import Derived.Test.YtiaoclnhocadeaaUnv
import Derived.Deep.QuietTactic
import Derived.BigQuiet
namespace Go.Proofs.Ytiaoclnhocadeaa
open Go.RowKit
set_option linter.unusedVariables false
set_option linter.unusedSimpArgs false

theorem unv_late {b : List Int} {a k : Nat} (h : 6 ≤ k) : unv b a k = (0, 0, 9) := unv_bad (.inl (by omega))
theorem unv_step {b : List Int} {a k : Nat} (h2 : a + k < b.length) (h3 : 128 ≤ b.getD (a + k) 0) : unv b a k = unv b a (k + 1) := by
  by_cases h1 : k < 6
  · exact unv_go h1 h2 h3
  · rw [unv_late (by omega), unv_late (by omega)]
theorem unv_no {b : List Int} {a k : Nat} (h3 : b.getD (a + k) 0 < 128) (h : (b.getD (a + k) 0 = 0 ∧ 0 < k) ∨ ¬ inV (unzig (grp b a (k + 1)))) : unv b a k = (0, 0, 9) := unv_bad (.inr ⟨h3, h⟩)
theorem unv_yes {b : List Int} {a k : Nat} (h0 : 0 ≤ b.getD (a + k) 0) (h2 : a + k < b.length) (h3 : b.getD (a + k) 0 < 128) (h4 : ¬ (b.getD (a + k) 0 = 0 ∧ 0 < k)) (h5 : inV (unzig (grp b a (k + 1)))) :
    unv b a k = (unzig (grp b a (k + 1)), ((a + k + 1 : Nat) : Int), 0) := by
  have h1 : k < 6 := by
    rcases Nat.lt_or_ge k 6 with h | h
    · exact h
    · exact absurd h5 (unv_long h (by omega) h3)
  exact unv_ok h1 h2 h3 h4 h5
theorem grp_sum (l : List Int) (a k : Nat) : ((grp l a k : Nat) : Int) + l.getD (a + k) 0 % 128 * ((128 ^ k : Nat) : Int) = ((grp l a (k + 1) : Nat) : Int) := by
  have hx : ∃ c : Nat, l.getD (a + k) 0 % 128 = (c : Int) ∧ c ≤ 127 := ⟨(l.getD (a + k) 0 % 128).toNat, by omega, by omega⟩
  obtain ⟨c, hc, hc'⟩ := hx
  have e : grp l a (k + 1) = grp l a k + c * 128 ^ k := by
    show grp l a k + ((l.getD (a + k) 0) % 128).toNat * 128 ^ k = _
    rw [hc]; simp
  rw [hc, e, Int.natCast_add, Int.natCast_mul]
theorem grp_prod (l : List Int) (a k : Nat) (hk : k < 8) : 0 ≤ l.getD (a + k) 0 % 128 * ((128 ^ k : Nat) : Int) ∧ l.getD (a + k) 0 % 128 * ((128 ^ k : Nat) : Int) ≤ 72057594037927936 ∧ grp l a (k + 1) ≤ 72057594037927936 ∧ 128 ^ k ≤ 562949953421312 ∧ 128 ^ (k + 1) = 128 ^ k * 128 := by
  have h1 := grp_sum l a k
  have h2 := grp_lt l a (k + 1)
  have h3 : (128 : Nat) ^ (k + 1) ≤ 128 ^ 8 := Nat.pow_le_pow_right (by omega) (by omega)
  have h4 : (128 : Nat) ^ 8 = 72057594037927936 := by decide
  have h5 : (128 : Nat) ^ k ≤ 128 ^ 7 := Nat.pow_le_pow_right (by omega) (by omega)
  have h6 : (128 : Nat) ^ 7 = 562949953421312 := by decide
  have hx : 0 ≤ l.getD (a + k) 0 % 128 := by omega
  have h7 := Int.mul_nonneg hx (show (0 : Int) ≤ ((128 ^ k : Nat) : Int) by omega)
  refine ⟨h7, by omega, by omega, by omega, Nat.pow_succ ..⟩

set_option maxRecDepth 100000 in
set_option maxHeartbeats 4000000 in
theorem unvarintOf_any (v : Value) (l : List Int) (a : Nat) (w : World) (hR : RdB w v l) (hB : IsB l) (ha : a ≤ l.length) (hlong : l.length ≤ 1000000000) :
    Calls Try.prog 23 #[v, .int .i64 (a : Int)] w fun e w' => e = .returned (.tuple #[.int .i64 (unv l a 0).1, .int .i64 (unv l a 0).2.1, .int .i64 (unv l a 0).2.2]) ∧ Below w.heap.size w w' := by
  obtain ⟨pa, ca, rfl, hc1, hc2⟩ := hR.lenv
  unfold maxLen at hc2
  have HR := Lib.hid hR
  have HB := Lib.hid hB
  clear hR hB
  have hin := fun w => in_any a 0 l.length w
  have hin' : inB a 0 l.length = true := inB_true.2 (by omega)
  rw [hin'] at hin
  clear hin'
  go_enter Try.func23, Try.ntmps23
  go_wp2_with (go_at_call 46; refine (hin _).mono ?_; rintro e w' ⟨rfl, rfl⟩)
  go_loopw [7, 8, 9] (fun u un i wr => ∃ k : Nat, k ≤ 8 ∧ i = .int .i64 ((a : Int) + (k : Int)) ∧ u = .int .i64 ((grp l a k : Nat) : Int) ∧ un = .int .i64 ((128 ^ k : Nat) : Int) ∧ unv l a 0 = unv l a k ∧ ∃ m, wr = w.drewN m) (fun _ _ i _ => a + 8 - (intOf i).toNat)
  case atStart => exact ⟨0, by omega, by simp, rfl, by rfl, rfl, 0, rfl⟩
  case round =>
    obtain ⟨k, hk, rfl, rfl, rfl, hu, m, rfl⟩ := hrel
    have HU := Lib.hid hu
    clear hu
    by_cases hlt : k < 8 ∧ a + k < l.length
    · obtain ⟨hlt8, hltl⟩ := hlt
      obtain ⟨b, off, c, hv, hc3, hc4, hblt, hcell⟩ := HR.out.cells (by omega)
      cases hv
      have c0 : w.cell? ⟨b, off + (a + k), none⟩ = some (.int .u8 (l.getD (a + k) 0)) := hcell (a + k) (by omega)
      have hx := HB.out.getD (a + k)
      have hsum := grp_sum l a k
      obtain ⟨hp1, hp2, hp3, hp4, hp5⟩ := grp_prod l a k hlt8
      have hgo := fun (h : (128 : Int) ≤ l.getD (a + k) 0) => unv_step (b := l) (a := a) (k := k) (by omega) h
      have hok := fun (h3 : l.getD (a + k) 0 < (128 : Int)) h4 h5 => unv_yes (b := l) (a := a) (k := k) hx.1 (by omega) h3 h4 h5
      have hbad := fun h3 h => unv_no (b := l) (a := a) (k := k) h3 h
      have hex := fun h3 h4 => vb_exact (b := l) (a := a) (k := k) hx.1 h3 h4
      have hsh := fun h3 h4 => vb_short (b := l) (a := a) (k := k) h3 h4
      have hgl := grp_lt l a k
      clear hcell
      generalize hG' : grp l a (k + 1) = G at *
      generalize hgk : grp l a k = gk at *
      generalize l.getD (a + k) 0 = x at *
      generalize hU' : 128 ^ (k + 1) = U' at *
      generalize hU : 128 ^ k = U at *
      have HG' := Lib.hid hG'
      have HUU := Lib.hid hU'
      have HGO := Lib.hid hgo
      have HOK := Lib.hid hok
      have HBAD := Lib.hid hbad
      have HEX := Lib.hid hex
      have HSH := Lib.hid hsh
      have H5 := Lib.hid hp5
      clear hG' hgk hU' hU hgo hok hbad hex hsh hp5
      have hea : (a : Int) + (k : Int) < (l.length : Int) := by omega
      have h8 : (k : Int) < 8 := by omega
      by_cases h128 : (128 : Int) ≤ x
      · have hd : decide ((128 : Int) ≤ x) = true := by simpa using h128
        have HR2 := Lib.hid (HGO.out h128)
        go_wp2_with fail
        go_roundw
        case rel => exact ⟨k + 1, by omega, by go_num, by rw [HG'.out], by rw [HUU.out, H5.out]; go_num, by rw [HU.out, HR2.out], m, rfl⟩
        case measure => simp [intOf]; omega
      · have hd : decide ((128 : Int) ≤ x) = false := by simpa using h128
        by_cases hodd : (G : Int) % 2 = 1
        · have hodd' : ((G : Int) % 2 == 1) = true := by simpa using hodd
          have hval : wrap64 (-((G : Int) + 1).tdiv 2) = unzig G := by
            rw [unzig_odd hodd, Int.tdiv_eq_ediv_of_nonneg (by omega), IntWalk.wrap64_in _ (by omega)]
            omega
          have HVAL := Lib.hid hval
          clear hodd hval
          go_wp2_with fail
          rw [HVAL.out]
          refine (varintOf_any (unzig G) _).mono ?_
          rintro e w1 ⟨v1, rfl, ho1, hb1⟩
          have hbw : Below w.heap.size w w1 := ((show Below w.heap.size w (w.drewN m) from ⟨rfl, rfl, rfl, Nat.le_refl _, fun _ _ => rfl⟩)).trans hb1
          obtain ⟨p1, q1, rfl, hq1, hq2⟩ := ho1.rd.lenv
          clear ho1 hb1
          by_cases hi : inB (unzig G) (-1000000000000) 1000000000000 = true
          · have hvr : varR (unzig G) = (vb G, 0) := by unfold varR; rw [if_pos hi, zig_unzig]
            have hvl : (varR (unzig G)).1.length = (vb G).length := by rw [hvr]
            have hve : (varR (unzig G)).2 = 0 := by rw [hvr]
            rw [hve]
            generalize (varR (unzig G)).1.length = vlen at *
            have hin2 := inB_inV.1 hi
            by_cases hn : x = 0 ∧ 0 < k
            · have HR2 := Lib.hid (HBAD.out (by omega) (.inl hn))
              have hne := HSH.out hn.1 hn.2
              have hne' : ((vlen : Int) == (a : Int) + (k : Int) + 1 - (a : Int)) = false := by simp; omega
              clear hvr hvl hve hn hne hi hin2
              go_wp2_with fail
              rw [HU.out, HR2.out]
              go_ret3
              exact ⟨rfl, hbw⟩
            · have HR2 := Lib.hid (HOK.out (by omega) hn hin2)
              have heq := HEX.out (by omega) hn
              have heq' : ((vlen : Int) == (a : Int) + (k : Int) + 1 - (a : Int)) = true := by simp; omega
              clear hvr hvl hve hn heq hi hin2
              go_wp2_with fail
              rw [HU.out, HR2.out]
              go_ret3
              exact ⟨ret3_int rfl (by omega) rfl, hbw⟩
          · have hvr : varR (unzig G) = ([], 1) := by unfold varR; rw [if_neg hi]
            have hve : (varR (unzig G)).2 = 1 := by rw [hvr]
            rw [hve]
            generalize (varR (unzig G)).1.length = vlen at *
            have HR2 := Lib.hid (HBAD.out (by omega) (.inr fun h => hi (inB_inV.2 h)))
            clear hvr hve hi
            go_wp2_with fail
            rw [HU.out, HR2.out]
            go_ret3
            exact ⟨rfl, hbw⟩
        · have hodd' : ((G : Int) % 2 == 1) = false := by simpa using hodd
          have HVAL := Lib.hid (unzig_even hodd)
          clear hodd
          go_wp2_with fail
          rw [← HVAL.out]
          refine (varintOf_any (unzig G) _).mono ?_
          rintro e w1 ⟨v1, rfl, ho1, hb1⟩
          have hbw : Below w.heap.size w w1 := ((show Below w.heap.size w (w.drewN m) from ⟨rfl, rfl, rfl, Nat.le_refl _, fun _ _ => rfl⟩)).trans hb1
          obtain ⟨p1, q1, rfl, hq1, hq2⟩ := ho1.rd.lenv
          clear ho1 hb1
          by_cases hi : inB (unzig G) (-1000000000000) 1000000000000 = true
          · have hvr : varR (unzig G) = (vb G, 0) := by unfold varR; rw [if_pos hi, zig_unzig]
            have hvl : (varR (unzig G)).1.length = (vb G).length := by rw [hvr]
            have hve : (varR (unzig G)).2 = 0 := by rw [hvr]
            rw [hve]
            generalize (varR (unzig G)).1.length = vlen at *
            have hin2 := inB_inV.1 hi
            by_cases hn : x = 0 ∧ 0 < k
            · have HR2 := Lib.hid (HBAD.out (by omega) (.inl hn))
              have hne := HSH.out hn.1 hn.2
              have hne' : ((vlen : Int) == (a : Int) + (k : Int) + 1 - (a : Int)) = false := by simp; omega
              clear hvr hvl hve hn hne hi hin2
              go_wp2_with fail
              rw [HU.out, HR2.out]
              go_ret3
              exact ⟨rfl, hbw⟩
            · have HR2 := Lib.hid (HOK.out (by omega) hn hin2)
              have heq := HEX.out (by omega) hn
              have heq' : ((vlen : Int) == (a : Int) + (k : Int) + 1 - (a : Int)) = true := by simp; omega
              clear hvr hvl hve hn heq hi hin2
              go_wp2_with fail
              rw [HU.out, HR2.out]
              go_ret3
              exact ⟨ret3_int rfl (by omega) rfl, hbw⟩
          · have hvr : varR (unzig G) = ([], 1) := by unfold varR; rw [if_neg hi]
            have hve : (varR (unzig G)).2 = 1 := by rw [hvr]
            rw [hve]
            generalize (varR (unzig G)).1.length = vlen at *
            have HR2 := Lib.hid (HBAD.out (by omega) (.inr fun h => hi (inB_inV.2 h)))
            clear hvr hve hi
            go_wp2_with fail
            rw [HU.out, HR2.out]
            go_ret3
            exact ⟨rfl, hbw⟩
    · have HR2 := Lib.hid (show unv l a k = (0, 0, 9) by
        by_cases h6 : 6 ≤ k
        · exact unv_late h6
        · exact unv_bad (.inl (by omega)))
      have hbw : Below w.heap.size w (w.drewN m) := ⟨rfl, rfl, rfl, Nat.le_refl _, fun _ _ => rfl⟩
      by_cases hl : (a : Int) + (k : Int) < (l.length : Int)
      · have h8 : ¬ (k : Int) < 8 := by omega
        clear hlt
        go_wp2_with fail
        rw [HU.out, HR2.out]
        go_ret3
        exact ⟨rfl, hbw⟩
      · clear hlt
        go_wp2_with fail
        rw [HU.out, HR2.out]
        go_ret3
        exact ⟨rfl, hbw⟩
end Go.Proofs.Ytiaoclnhocadeaa
