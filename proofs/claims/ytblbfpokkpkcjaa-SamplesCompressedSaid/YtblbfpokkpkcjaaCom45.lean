import Derived.Test.YtblbfpokkpkcjaaCom19
import Derived.Test.YtblbfpokkpkcjaaCom27
import Derived.Test.YtblbfpokkpkcjaaCom25
import Derived.Test.YtblbfpokkpkcjaaCom26
import Derived.Test.YtblbfpokkpkcjaaCom43
import Derived.Test.YtblbfpokkpkcjaaCom44
/- The contract of MinimumOf (the reference). -/

namespace Go.Proofs.Ytblbfpokkpkcjaa
open Go.RowKit
set_option linter.unusedVariables false
set_option linter.unusedSimpArgs false

theorem idxFrom_rises (n : Nat) (c : List Nat) (p : Option Int) (hp : c.Pairwise (· < ·)) (hc : ∀ x ∈ c, x < n) (hq : ∀ q, p = some q → ∀ x ∈ c, q < (x : Int)) : idxFrom n p (intsN c) = 0 := by
  induction c generalizing p with
  | nil => cases p <;> rfl
  | cons x r ih =>
    have hx := hc x (by simp)
    have h1 : inB (x : Int) 0 ((n : Int) - 1) = true := by unfold inB; simp; omega
    have h2 : notAfter p (x : Int) = false := by
      cases p with
      | none => rfl
      | some q => have := hq q rfl x (by simp); simp [notAfter]; omega
    have h3 := ih (some (x : Int)) (List.pairwise_cons.1 hp).2 (fun y hy => hc y (by simp [hy])) (fun q hq' y hy => by
      cases hq'
      have := (List.pairwise_cons.1 hp).1 y hy
      omega)
    simp only [intsN, List.map_cons, idxFrom] at h3 ⊢
    rw [h1, h2]
    simpa using h3
theorem kept_bits {l : List Smp} (h : serErr l = 0) (s : Nat) : keptErr l (intsN (bitsL s l.length)) = 0 := by
  unfold keptErr idxErr
  have hlen : (intsN (bitsL s l.length)).length ≤ l.length := by
    have h1 := List.length_filter_le (fun i => s.testBit i) (List.range l.length)
    rw [List.length_range] at h1
    simpa [intsN, bitsL] using h1
  rw [if_neg (by simp [h]), if_neg (by omega)]
  exact idxFrom_rises _ _ none (bitsL_rises _ _) (bitsL_lt _ _) (fun q hq => by cases hq)
theorem bitsL_nil {s n : Nat} (h : bitsL s n = []) (hs : s < 2 ^ n) : s = 0 := by
  refine Nat.eq_of_testBit_eq fun i => ?_
  rw [Nat.zero_testBit]
  by_cases hi : i < n
  · unfold bitsL at h
    have := List.filter_eq_nil_iff.1 h i (List.mem_range.2 hi)
    simpa using this
  · exact Nat.testBit_lt_two_pow (Nat.lt_of_lt_of_le hs (Nat.pow_le_pow_right (by omega) (by omega)))
theorem bitsL_short (s n : Nat) : (intsN (bitsL s n)).length ≤ n := by
  have h1 := List.length_filter_le (fun i => s.testBit i) (List.range n)
  rw [List.length_range] at h1
  simpa [intsN, bitsL] using h1
theorem minTo_short (F : List Nat → Bool) (n m : Nat) : (intsN (minTo F n m)).length ≤ n := by
  rcases minTo_fits F n m with h | ⟨q, h, _⟩
  · rw [h]; simp [intsN]
  · rw [h]; exact bitsL_short q n
theorem cmp_ltK (a b : List Nat) : ltK a b = decide (orOf [cmpI ((intsN a).length : Int) ((intsN b).length : Int), cmpG (intsN a) (intsN b)] < 0) := by
  have e1 : (intsN a).length = a.length := by simp [intsN]
  have e2 : (intsN b).length = b.length := by simp [intsN]
  rw [e1, e2]
  unfold ltK cmpI
  by_cases h1 : a.length < b.length
  · have : (a.length : Int) < (b.length : Int) := by omega
    simp [h1, this, orOf]
  · by_cases h2 : b.length < a.length
    · have a1 : ¬ (a.length : Int) < (b.length : Int) := by omega
      have a2 : (b.length : Int) < (a.length : Int) := by omega
      have a3 : ¬ a.length = b.length := by omega
      simp [h1, a1, a2, a3, orOf]
    · have a3 : a.length = b.length := by omega
      have h3 := cmpG_lex a b a3
      rw [← h3]
      have key : ∀ q : Int, (decide (a.length < b.length) || (decide (a.length = b.length) && decide (q < 0))) = decide (orOf [if (a.length : Int) < (b.length : Int) then -1 else if (b.length : Int) < (a.length : Int) then 1 else 0, q] < 0) := by
        intro q
        rw [a3]
        by_cases hq : q = 0
        · subst hq; simp [orOf]
        · simp [orOf, hq]
      exact key (cmpG (intsN a) (intsN b))
theorem bit_int (s k : Nat) : (((s : Int) / 2 ^ k).tmod 2 == 1) = s.testBit k := by
  rw [Nat.testBit_eq_decide_div_mod_eq]
  have h : ((s : Int) / 2 ^ k) = ((s / 2 ^ k : Nat) : Int) := by
    rw [Int.natCast_ediv, Int.natCast_pow]; rfl
  rw [h]
  generalize s / 2 ^ k = q
  rw [Int.tmod_eq_emod_of_nonneg (by omega)]
  rw [Bool.eq_iff_iff]
  simp
  omega

set_option maxRecDepth 100000 in
set_option maxHeartbeats 4000000 in
theorem minimumOf_any (d m : Int) (v : Value) (l : List Smp) (w : World) (hR : RdS w 71 v l) (hn : l.length ≤ 20) (hser : serErr l = 0) (hd : 0 ≤ d ∧ d ≤ 2000000) :
    Calls Try.prog 34 #[.agg #[.int .i64 d, .int .i64 m], v] w fun e w' => ∃ vr, e = .returned vr ∧ RdI w' vr (intsN (minTo (fun c => fitsB d m l (intsN c)) l.length (2 ^ l.length))) ∧ Below w.heap.size w w' := by
  obtain ⟨pa, ca, rfl⟩ := hR.lenv
  have hbw : Below w.heap.size w (w.alloc (.cells #[.int .i64 d, .int .i64 m] 30)) := (Below.refl _ w).alloc (Nat.le_refl _) _
  have bd0 : Blk (w.alloc (.cells #[.int .i64 d, .int .i64 m] 30)) w.heap.size 30 #[.int .i64 d, .int .i64 m] := Blk.new w _ _
  have HR := Lib.hid hR
  clear hR
  go_enter Try.func34, Try.ntmps34
  go_upto_region 1 with fail
  generalize w.alloc (.cells #[.int .i64 d, .int .i64 m] 30) = w1 at *
  go_upto_region 3 with fail
  have hpow : wrap64 (2 ^ l.length) = ((2 ^ l.length : Nat) : Int) := by
    have h1 : 2 ^ l.length ≤ 2 ^ 20 := Nat.pow_le_pow_right (by omega) hn
    rw [show ((2 : Int) ^ l.length) = ((2 ^ l.length : Nat) : Int) by rw [Int.natCast_pow]; rfl]
    have h2 : 2 ^ l.length ≤ 1048576 := h1
    clear h1
    generalize 2 ^ l.length = M at *
    have h3 : wrap64 (M : Int) = (M : Int) := by first | (exact wrap64_of (by omega) (by omega)) | (unfold wrap64; omega) | (simp [wrap64]; omega)
    exact h3
  rw [hpow]
  have hM : 2 ^ l.length ≤ 1048576 := Nat.pow_le_pow_right (by omega) hn
  clear hpow
  have HB := Lib.hid bd0
  have HBW := Lib.hid hbw
  have hs1 := hbw.size
  clear bd0 hbw
  generalize hMq : 2 ^ l.length = M at *
  have HMQ := Lib.hid hMq
  clear hMq
  go_loopw [5, 12] (fun vb i wr => ∃ (s : Nat), s ≤ M ∧ i = .int .i64 (s : Int) ∧ RdI wr vb (intsN (minTo (fun c => fitsB d m l (intsN c)) l.length s)) ∧ (s < M → minTo (fun c => fitsB d m l (intsN c)) l.length s = [] → vb = .slice none 0 0) ∧ Below w1.heap.size w1 wr) (fun _ i _ => M - (intOf i).toNat)
  case atStart => exact ⟨0, by omega, rfl, Rd.nil _ _ _, fun _ _ => rfl, Below.refl _ _⟩
  case round =>
    obtain ⟨s, hs, rfl, hrd, hnil, hbl⟩ := hrel
    have HRD := Lib.hid hrd
    have HNIL := Lib.hid hnil
    have HBL := Lib.hid hbl
    clear hrd hnil hbl
    by_cases hlt : s < M
    · go_upto_region 7 with fail
      generalize wr = ws at *
      go_loopw [7, 17] (fun o i wk => ∃ k : Nat, k ≤ l.length ∧ i = .int .i64 (k : Int) ∧ StK ws o (intsN (bitsL s k)) wk) (fun _ i _ => l.length - (intOf i).toNat)
      case atStart => exact ⟨0, by omega, rfl, World.ownsRow_nil _ _ _ _, Below.refl _ _⟩
      case round =>
        obtain ⟨k, hk, rfl, hst⟩ := hrel
        by_cases hkl : k < l.length
        · have HSU := Lib.hid (bitsL_succ s k)
          have hil : (intsN (bitsL s k)).length ≤ k := by
            have h1 := List.length_filter_le (fun i => s.testBit i) (List.range k)
            rw [List.length_range] at h1
            simpa [intsN, bitsL] using h1
          have hbt := bit_int s k
          generalize bitsL s k = c at *
          cases hb : s.testBit k
          · rw [hb] at hbt
            have HE := Lib.hid (show bitsL s (k + 1) = c by rw [HSU.out, hb]; simp)
            have HST := Lib.hid hst
            clear hb hst
            go_wp2_with fail
            go_roundw
            case rel => exact ⟨k + 1, by omega, by go_num, by rw [HE.out]; exact HST.out⟩
            case measure => simp [intOf]; omega
          · rw [hb] at hbt
            have HE := Lib.hid (show intsN (bitsL s (k + 1)) = intsN c ++ [(k : Int)] by rw [HSU.out, hb]; simp [intsN])
            have HO := Lib.hid (hst.alloc (.cells #[.int .i64 (k : Int)] 3))
            have hso := HO.out.bl.size
            clear hb hst
            go_wp2_with (at_builtin; go_loud (refine wpList_append_num rfl (.tmp 25) (.tmp 27) rfl ws.heap.size u7 (intsN c).length (intsN c) rfl (by exact HO.out.own) wr.heap.size rfl (k : Int) (by exact Blk.new _ _ _) (by omega) (by exact hso) ?_); intro v1 wd hown1 hgrow1)
            have hkd := HO.out.grown _ hgrow1 hown1
            have HKD := Lib.hid hkd
            clear hown1 hgrow1 hkd
            go_roundw
            case rel => exact ⟨k + 1, by omega, by go_num, by rw [HE.out]; exact HKD.out⟩
            case measure => simp [intOf]; omega
        · obtain rfl : k = l.length := by omega
          have hrk : RdI wr u7 (intsN (bitsL s l.length)) := Rd.of_own hst.own
          obtain ⟨pk, ck, rfl⟩ := hrk.lenv
          have hbl2 := hst.bl
          have hkg := kept_bits hser s
          have hMT : minTo (fun c => fitsB d m l (intsN c)) l.length (s + 1) = if (minTo (fun c => fitsB d m l (intsN c)) l.length s = [] ∨ ltK (bitsL s l.length) (minTo (fun c => fitsB d m l (intsN c)) l.length s) = true) ∧ fitsB d m l (intsN (bitsL s l.length)) = true then bitsL s l.length else minTo (fun c => fitsB d m l (intsN c)) l.length s := rfl
          clear hst
          have hblr := HBL.out.trans (hbl2.mono HBL.out.size)
          have hrb := Rd.below HRD.out hbl2
          have bdr : Blk wr w.heap.size 30 #[.int .i64 d, .int .i64 m] := HB.out.below hblr HB.out.lt
          have hcall := fun (W : World) (hb : Below wr.heap.size wr W) => fitsOf_any d m (.slice pa l.length ca) (.slice pk (intsN (bitsL s l.length)).length ck) l (intsN (bitsL s l.length)) W (Rd.below (Rd.below (Rd.below HR.out HBW.out) hblr) hb) (Rd.below hrk hb) hkg hd
          have HFE := Lib.hid (show fitsB d m l (intsN (bitsL s l.length)) = true → bitsL s l.length = [] → ¬ s + 1 < M from fun h1 h2 => by
            by_cases hl : 0 < l.length
            · obtain ⟨r, h3, _⟩ := (fits_way d m l hl _).1 h1
              rw [h2] at h3; cases h3
            · have h4 := HMQ.out
              rw [show l.length = 0 by omega] at h4
              omega)
          generalize fitsB d m l (intsN (bitsL s l.length)) = FB at *
          have HMT := Lib.hid hMT
          have HRK := Lib.hid hrk
          have HRB := Lib.hid hrb
          have HCALL := Lib.hid hcall
          have HBR := Lib.hid hblr
          clear hMT hkg hrk hrb hcall hblr hbl2
          by_cases hmt : minTo (fun c => fitsB d m l (intsN c)) l.length s = []
          · obtain rfl := HNIL.out hlt hmt
            have HM0 := Lib.hid hmt
            clear hmt
            go_upto_region 13 with fail
            have e0 := bdr.cell 0
            have e1 := bdr.cell 1
            go_wp2_with fail
            refine (HCALL.out _ (Below.refl _ _)).mono ?_
            rintro e wf ⟨rfl, hbf⟩
            have hbl4 := HBR.out.trans (hbf.mono HBR.out.size)
            cases FB
            · have HE := Lib.hid (show minTo (fun c => fitsB d m l (intsN c)) l.length (s + 1) = [] by rw [HMT.out, if_neg (by simp), HM0.out])
              clear e0 e1
              go_wp2_with fail
              go_roundw
              case rel => exact ⟨s + 1, by omega, by go_num, by rw [HE.out]; exact Rd.nil _ _ _, fun _ _ => rfl, hbl4⟩
              case measure => simp [intOf]; omega
            · have HE := Lib.hid (show minTo (fun c => fitsB d m l (intsN c)) l.length (s + 1) = bitsL s l.length by rw [HMT.out, if_pos ⟨.inl HM0.out, rfl⟩])
              clear e0 e1
              go_wp2_with fail
              go_roundw
              case rel => exact ⟨s + 1, by omega, by go_num, by rw [HE.out]; exact Rd.below HRK.out hbf, fun h1 h2 => absurd h1 (HFE.out trivial (by rw [← HE.out]; exact h2)), hbl4⟩
              case measure => simp [intOf]; omega
          · have hs0 : bitsL s l.length ≠ [] := fun h => by
              have h0 := bitsL_nil h (by rw [HMQ.out]; exact hlt)
              rw [h0] at hmt
              exact hmt rfl
            have hcl := bitsL_short s l.length
            have hbl9 := minTo_short (fun c => fitsB d m l (intsN c)) l.length s
            generalize minTo (fun c => fitsB d m l (intsN c)) l.length s = best at *
            generalize bitsL s l.length = c at *
            have hbp : 0 < (intsN best).length := by
              cases best with
              | nil => exact absurd rfl hmt
              | cons x r => simp [intsN]
            have hcp : 0 < (intsN c).length := by
              cases c with
              | nil => exact absurd rfl hs0
              | cons x r => simp [intsN]
            obtain ⟨bb, ob, cb, rfl, _, _, _, _⟩ := RdI.atg HRB.out hbp
            have HNE := Lib.hid hmt
            have hlk := cmp_ltK c best
            have HG := Lib.hid (compareG_any _ _ (intsN c) (intsN best) wr HRK.out HRB.out hcp hbp (by omega) (by omega))
            generalize cmpG (intsN c) (intsN best) = X2 at *
            have HO := Lib.hid (fun (W : World) (b : Nat) h => orI2_any W b (cmpI ((intsN c).length : Int) ((intsN best).length : Int)) X2 h)
            have HC := Lib.hid (fun W => compare_any ((intsN c).length : Int) ((intsN best).length : Int) W)
            generalize cmpI ((intsN c).length : Int) ((intsN best).length : Int) = X1 at *
            generalize orOf [X1, X2] = R at *
            have hbx := fun (o : Obj) => HBR.out.alloc HBR.out.size o
            have HBX := Lib.hid hbx
            have bdx : ∀ o : Obj, Blk (wr.alloc o) w.heap.size 30 #[.int .i64 d, .int .i64 m] := fun o => bdr.below ((Below.refl _ wr).alloc (Nat.le_refl _) o) bdr.lt
            have HBDX := Lib.hid bdx
            clear hmt hs0 hbx bdx
            cases hK : ltK c best
            · rw [hK] at hlk
              have hR0 : 0 ≤ R := by have := of_decide_eq_false hlk.symm; omega
              have HE := Lib.hid (show minTo (fun c => fitsB d m l (intsN c)) l.length (s + 1) = best by rw [HMT.out, if_neg (by rintro ⟨h | h, _⟩; exact HNE.out h; rw [hK] at h; cases h)])
              clear hlk
              go_wp2_with (first
                | (go_at_call 117; refine (HC.out _).mono ?_; rintro e wa ⟨rfl, rfl⟩)
                | (go_at_call 118; refine HG.out.mono ?_; rintro e wb ⟨rfl, rfl⟩)
                | (go_at_call 116; refine (HO.out _ _ (Blk.new _ _ _)).mono ?_; rintro e wc ⟨rfl, rfl⟩))
              go_roundw
              case rel => exact ⟨s + 1, by omega, by go_num, by rw [HE.out]; exact Rd.below HRB.out ((Below.refl _ wr).alloc (Nat.le_refl _) _), fun _ h => absurd (HE.out.symm.trans h) HNE.out, HBX.out _⟩
              case measure => simp [intOf]; omega
            · rw [hK] at hlk
              have hR0 : R < 0 := of_decide_eq_true hlk.symm
              clear hlk
              go_upto_region 13 with (first
                | (go_at_call 117; refine (HC.out _).mono ?_; rintro e wa ⟨rfl, rfl⟩)
                | (go_at_call 118; refine HG.out.mono ?_; rintro e wb ⟨rfl, rfl⟩)
                | (go_at_call 116; refine (HO.out _ _ (Blk.new _ _ _)).mono ?_; rintro e wc ⟨rfl, rfl⟩))
              have hax : Below wr.heap.size wr (wr.alloc (.cells #[.int .i64 X1, .int .i64 X2] 3)) := (Below.refl _ wr).alloc (Nat.le_refl _) _
              have hbd := HBDX.out (.cells #[.int .i64 X1, .int .i64 X2] 3)
              have hbq := HBX.out (.cells #[.int .i64 X1, .int .i64 X2] 3)
              generalize wr.alloc (.cells #[.int .i64 X1, .int .i64 X2] 3) = wx at *
              have HAX := Lib.hid hax
              have HBQ := Lib.hid hbq
              have e0 := hbd.cell 0
              have e1 := hbd.cell 1
              clear hax hbq
              go_wp2_with fail
              refine (HCALL.out _ HAX.out).mono ?_
              rintro e wf ⟨rfl, hbf⟩
              have hbl4 := HBQ.out.trans (hbf.mono HBQ.out.size)
              have hra := HAX.out.trans (hbf.mono HAX.out.size)
              cases FB
              · have HE := Lib.hid (show minTo (fun c => fitsB d m l (intsN c)) l.length (s + 1) = best by rw [HMT.out, if_neg (by simp)])
                clear e0 e1
                go_wp2_with fail
                go_roundw
                case rel => exact ⟨s + 1, by omega, by go_num, by rw [HE.out]; exact Rd.below HRB.out hra, fun _ h => absurd (HE.out.symm.trans h) HNE.out, hbl4⟩
                case measure => simp [intOf]; omega
              · have HE := Lib.hid (show minTo (fun c => fitsB d m l (intsN c)) l.length (s + 1) = c by rw [HMT.out, if_pos ⟨.inr hK, rfl⟩])
                clear e0 e1
                go_wp2_with fail
                go_roundw
                case rel => exact ⟨s + 1, by omega, by go_num, by rw [HE.out]; exact Rd.below HRK.out hra, fun h1 h2 => absurd h1 (HFE.out trivial (by rw [← HE.out]; exact h2)), hbl4⟩
                case measure => simp [intOf]; omega
    · obtain rfl : s = M := by omega
      go_wp2_with fail
      go_ret
      exact ⟨_, rfl, by rw [HMQ.out]; exact HRD.out, HBW.out.trans (HBL.out.mono hs1)⟩
end Go.Proofs.Ytblbfpokkpkcjaa
