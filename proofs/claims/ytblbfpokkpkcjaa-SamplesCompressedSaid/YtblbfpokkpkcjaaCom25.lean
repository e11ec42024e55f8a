import Derived.Test.YtblbfpokkpkcjaaCom15
import Derived.Test.YtblbfpokkpkcjaaCom24
import Derived.Test.YtblbfpokkpkcjaaCom17
import Derived.Test.YtblbfpokkpkcjaaCom06
/- The contract of Compress (package compress). No condition. -/

namespace Go.Proofs.Ytblbfpokkpkcjaa
open Go.RowKit
set_option linter.unusedVariables false
set_option linter.unusedSimpArgs false

def erE (a b : Int) : Int := if a ≠ 0 then a else b
theorem erE_zero {a b : Int} (h : erE a b = 0) : a = 0 ∧ b = 0 := by unfold erE at h; split at h <;> omega
theorem serErr_fit {l : List Smp} (h : serErr l = 0) : FitL l := by
  have hg := (serErr_good h).2
  have ha : ∀ i, i < l.length → smpErr (atS l i) = 0 := fun i hi => hg _ (by unfold atS; rw [List.getD_eq_getElem?_getD, List.getElem?_eq_getElem hi]; exact List.getElem_mem hi)
  exact ⟨⟨fun i k hik hk => rise_ltA (serErr_rise h) i k hik hk, fun j hj hq => (smpErr_good (ha j hj)).2.2.2 hq⟩, fun i hi => ⟨(smpErr_good (ha i hi)).2.2.1, (smpErr_good (ha i hi)).1⟩⟩

theorem FitL.take {l : List Smp} (h : FitL l) (k : Nat) : FitL (l.take k) := by
  have e : ∀ i, i < (l.take k).length → atS (l.take k) i = atS l i ∧ i < l.length := fun i hi => by simp at hi; exact ⟨atS_take l k i (by omega), by omega⟩
  refine ⟨⟨fun i j hij hj => ?_, fun j hj hq => ?_⟩, fun i hi => ?_⟩
  · rw [(e i (by omega)).1, (e j hj).1]; exact h.ok.lt i j hij (e j hj).2
  · rw [(e j hj).1] at hq ⊢; exact h.ok.bad j (e j hj).2 hq
  · rw [(e i hi).1]; exact h.fit i (e i hi).2
theorem compTo_long (d m : Int) (l : List Smp) (k : Nat) : (compTo d m l k).1.length ≤ 2 * k := by
  rcases Nat.eq_zero_or_pos k with rfl | hk
  · simp [compTo]
  · exact (compTo_inv d m l k hk).2.2.2
theorem checkBoth_any (d m : Int) (v : Value) (l : List Smp) (w : World) (hR : RdS w 71 v l) :
    Calls Try.prog 105 #[.agg #[.int .i64 d, .int .i64 m], v] w fun e w' => e = .returned (.int .i64 (erE (doorErr d m) (serErr l))) ∧ Below w.heap.size w w' := by
  have hbw : Below w.heap.size w (w.alloc (.cells #[.int .i64 d, .int .i64 m] 30)) := (Below.refl _ w).alloc (Nat.le_refl _) _
  have HCD := Lib.hid (fun w => checkDoor_any d m w)
  have HCS := Lib.hid (fun (W : World) (hb : Below w.heap.size w W) => checkSeries_any v l W (Rd.below hR hb))
  have HO := Lib.hid (show erE (doorErr d m) (serErr l) = if doorErr d m ≠ 0 then doorErr d m else serErr l from rfl)
  generalize erE (doorErr d m) (serErr l) = R at *
  generalize doorErr d m = E at *
  generalize serErr l = S at *
  clear hR
  go_enter Try.func105, Try.ntmps105
  go_wp2_with fail
  refine (HCD.out _).mono ?_
  rintro e w1 ⟨rfl, hb1⟩
  have hb := hbw.trans (hb1.mono hbw.size)
  clear hbw hb1
  by_cases hE : E = 0
  · have hE' : (E != 0) = false := by simpa using hE
    have HX := Lib.hid (show R = S by rw [HO.out, if_neg (by simpa using hE)])
    clear hE
    go_wp2_with fail
    refine (HCS.out _ hb).mono ?_
    rintro e w2 ⟨rfl, hb2⟩
    go_wp2_with fail
    go_ret
    exact ⟨by rw [HX.out]; rfl, hb.trans (hb2.mono hb.size)⟩
  · have hE' : (E != 0) = true := by simpa using hE
    have HX := Lib.hid (show R = E by rw [HO.out, if_pos hE])
    clear hE
    go_wp2_with fail
    go_ret
    exact ⟨by rw [HX.out]; rfl, hb⟩

/-- What Compress returns. -/
def cprE (d m : Int) (l : List Smp) : Int := erE (doorErr d m) (serErr l)
def cprR (d m : Int) (l : List Smp) : List Int := if cprE d m l = 0 then compressed d m l else []

/-- Between two rounds of Compress: the compressor has taken k samples, their indices are kept. -/
structure CprK (w0 : World) (B c : Nat) (d m : Int) (l : List Smp) (k : Nat) (vo : Value) (out : List Int) (w : World) : Prop where
  cs : CompSt B w c d m (l.take k)
  ow : w.ownsRow w0.heap.size 3 1 vo out.length (out.map (Value.int .i64))
  bl : Below w0.heap.size w0 w
  sz : B ≤ w.heap.size
  lo : w0.heap.size ≤ B
section
variable {w0 w w' : World} {B c k : Nat} {d m : Int} {l : List Smp} {vo : Value} {out : List Int}
theorem CprK.step (h : CprK w0 B c d m l k vo out w) (hb : Below w.heap.size w w') : CprK w0 B c d m l k vo out w' :=
  ⟨h.cs.below hb, own_keep h.ow fun b _ _ hh => hb.block b (lt_of_heap hh), h.bl.trans (hb.mono h.bl.size), Nat.le_trans h.sz hb.size, h.lo⟩
theorem CprK.alloc (h : CprK w0 B c d m l k vo out w) (o : Obj) : CprK w0 B c d m l k vo out (w.alloc o) := h.step ((Below.refl _ w).alloc (Nat.le_refl _) o)
theorem CprK.grown (h : CprK w0 B c d m l k vo out w) {v' : Value} {out' : List Int} {n : Nat} (hn : n = out'.length) (hg : w.grownBy w' vo.ownBlock) (ho : w'.ownsRow w0.heap.size 3 1 v' n (out'.map (Value.int .i64))) : CprK w0 B c d m l k v' out' w' := by
  subst hn
  exact ⟨h.cs.grown h.ow (by decide) (by decide) hg, ho, h.bl.trans (below_grown h.ow h.bl.size hg), Nat.le_trans h.sz hg.size, h.lo⟩
end

set_option maxRecDepth 100000 in
set_option maxHeartbeats 4000000 in
theorem compress_any (d m : Int) (v : Value) (l : List Smp) (w : World) (hR : RdS w 71 v l) :
    Calls Try.prog 26 #[.agg #[.int .i64 d, .int .i64 m], v] w fun e w' => ∃ vr, e = .returned (.tuple #[vr, .int .i64 (cprE d m l)]) ∧ RdI w' vr (cprR d m l) ∧ Below w.heap.size w w' := by
  obtain ⟨pa, ca, rfl⟩ := hR.lenv
  have hbw : Below w.heap.size w (w.alloc (.cells #[.int .i64 d, .int .i64 m] 30)) := (Below.refl _ w).alloc (Nat.le_refl _) _
  have bd0 : Blk (w.alloc (.cells #[.int .i64 d, .int .i64 m] 30)) w.heap.size 30 #[.int .i64 d, .int .i64 m] := Blk.new w _ _
  have hcb := checkBoth_any d m (.slice pa l.length ca) l _ (Rd.below hR hbw)
  have HZ := Lib.hid (fun h : cprE d m l = 0 => And.intro (doorErr_ok (erE_zero h).1) (erE_zero h).2)
  have HRR := Lib.hid (show cprR d m l = if cprE d m l = 0 then compressed d m l else [] from rfl)
  rw [show erE (doorErr d m) (serErr l) = cprE d m l from rfl] at hcb
  generalize cprR d m l = RR at *
  generalize cprE d m l = E at *
  have HCB := Lib.hid hcb
  have HR := Lib.hid hR
  clear hcb hR
  go_enter Try.func26, Try.ntmps26
  go_upto_region 1 with fail
  generalize w.alloc (.cells #[.int .i64 d, .int .i64 m] 30) = w1 at *
  have e0 := bd0.cell 0
  have e1 := bd0.cell 1
  go_wp2_with fail
  refine HCB.out.mono ?_
  rintro e w2 ⟨rfl, hb2⟩
  have bd2 := bd0.below hb2 bd0.lt
  have hb := hbw.trans (hb2.mono hbw.size)
  clear hbw hb2 bd0 e0 e1
  by_cases hE : E = 0
  · have hE' : (E != 0) = false := by simpa using hE
    have HE := Lib.hid hE
    obtain ⟨⟨hd, hm⟩, hS⟩ := HZ.out hE
    have HX := Lib.hid (show RR = compressed d m l by rw [HRR.out, if_pos hE])
    have hfit := serErr_fit hS
    have hlong := (serErr_good hS).1
    clear hE HZ HRR HCB
    have e0 := bd2.cell 0
    have e1 := bd2.cell 1
    go_wp2_with fail
    have hk0 : CprK w w2.heap.size w2.heap.size d m l 0 (.slice none 0 0) [] (w2.alloc (.cells #[.int .i64 d, .int .i64 m, .pointer none, .int .i64 0, .int .i64 0, .int .i64 0] 152)) :=
      ⟨⟨Nat.le_refl _, .inl ⟨by simp, ⟨0, 0, 0⟩, Blk.new _ _ _⟩⟩, World.ownsRow_nil _ _ _ _, hb.alloc hb.size _, by simp, hb.size⟩
    generalize hwc : w2.alloc (.cells #[.int .i64 d, .int .i64 m, .pointer none, .int .i64 0, .int .i64 0, .int .i64 0] 152) = wc at *
    generalize w2.heap.size = B at *
    have HBC := Lib.hid hk0.bl
    have HFIT := Lib.hid hfit
    clear hfit hwc bd2 e0 e1 hb
    go_loopw [7, 23] (fun so i wr => ∃ (k : Nat) (vo : Value), so = vo ∧ k ≤ l.length ∧ i = .int .i64 (k : Int) ∧ CprK w B B d m l k vo (compTo d m l k).1 wr) (fun _ i _ => l.length - (intOf i).toNat)
    case atStart => exact ⟨0, _, rfl, by omega, rfl, hk0⟩
    case round =>
      obtain ⟨k, vo, rfl, hk, rfl, hkk⟩ := hrel
      by_cases hkl : k < l.length
      · have hRr : RdS wr _ (.slice pa l.length ca) l := Rd.below HR.out hkk.bl
        obtain ⟨b, off, cc, hv, hc1, hc2, hblt, hcell⟩ := RdS.at_ hRr (by omega)
        cases hv
        unfold maxLen at hc2
        obtain ⟨c0, c1, c2⟩ := hcell k hkl
        have hkx := hkk.alloc (.cells #[.int .i64 (atS l k).t, .int .i64 (atS l k).v, .int .i64 (atS l k).q] 71)
        have hpr := process_step B B d m (l.take k) (atS l k) _ hkx.cs (by rw [take_more l k hkl]; exact HFIT.out.take (k + 1)) hd hkx.sz
        have HST := Lib.hid (fun (bf nw : Bool) h1 h2 => idx_step (d := d) (m := m) HFIT.out.ok hkl (bf := bf) (nw := nw) h1 h2)
        have hol := compTo_long d m l k
        have HTM := Lib.hid (take_more l k hkl)
        generalize atS l k = x at *
        generalize (compTo d m l k).1 = out at *
        have HKX := Lib.hid hkx
        have HPR := Lib.hid hpr
        have hw1 : IntKind.i64.wrap ((k : Int) - 1) = (k : Int) - 1 := IntWalk.i64_in _ (by omega)
        clear hcell hRr hkx hpr hkk
        go_wp2_with fail
        refine HPR.out.mono ?_
        rintro e w6 ⟨bf, nw, rfl, har, hcs6, hcg6, hbf⟩
        rw [HTM.out] at hcs6
        have hk6 : CprK w B B d m l (k + 1) u7 out w6 := ⟨hcs6, hcg6.own HKX.out.ow (by decide) (by decide), HKX.out.bl.trans (hcg6.bl.mono HKX.out.lo), Nat.le_trans HKX.out.sz hcg6.bl.size, HKX.out.lo⟩
        have HN := Lib.hid (HST.out bf nw har hbf)
        have HK6 := Lib.hid hk6
        have hs6 := hk6.bl.size
        clear har hcs6 hcg6 hbf hk6 HST HPR HKX c0 c1 c2
        cases bf
        · cases nw
          · go_wp2_with fail
            go_roundw
            case rel => exact ⟨k + 1, _, rfl, by omega, by go_num, by rw [HN.out]; simpa using HK6.out⟩
            case measure => simp [intOf]; omega
          · have HO := Lib.hid (HK6.out.alloc (.cells #[.int .i64 (k : Int)] 3))
            go_wp2_with (at_builtin; go_loud (refine wpList_append_num rfl (.tmp 40) (.tmp 42) rfl w.heap.size u7 out.length out rfl (by exact HO.out.ow) w6.heap.size rfl (k : Int) (by exact Blk.new _ _ _) (by omega) (by exact HO.out.bl.size) ?_); intro v1 wd hown1 hgrow1)
            have hkd := HO.out.grown (out' := out ++ [(k : Int)]) (by simp) hgrow1 hown1
            clear hown1 hgrow1
            go_roundw
            case rel => exact ⟨k + 1, _, rfl, by omega, by go_num, by rw [HN.out]; simpa using hkd⟩
            case measure => simp [intOf]; omega
        · have HO := Lib.hid (HK6.out.alloc (.cells #[.int .i64 ((k : Int) - 1)] 3))
          cases nw
          · go_wp2_with (at_builtin; go_loud (refine wpList_append_num rfl (.tmp 34) (.tmp 37) rfl w.heap.size u7 out.length out rfl (by exact HO.out.ow) w6.heap.size rfl ((k : Int) - 1) (by exact Blk.new _ _ _) (by omega) (by exact HO.out.bl.size) ?_); intro v1 wd hown1 hgrow1)
            have hkd := HO.out.grown (out' := out ++ [(k : Int) - 1]) (by simp) hgrow1 hown1
            clear hown1 hgrow1
            go_roundw
            case rel => exact ⟨k + 1, _, rfl, by omega, by go_num, by rw [HN.out]; simpa using hkd⟩
            case measure => simp [intOf]; omega
          · go_wp2_with (at_builtin; first
              | (go_loud (refine wpList_append_num rfl (.tmp 34) (.tmp 37) rfl w.heap.size u7 out.length out rfl (by exact HO.out.ow) w6.heap.size rfl ((k : Int) - 1) (by exact Blk.new _ _ _) (by omega) (by exact HO.out.bl.size) ?_); intro v1 wd hown1 hgrow1; have HD := Lib.hid ((HO.out.grown (out' := out ++ [(k : Int) - 1]) (by simp) hgrow1 hown1).alloc (.cells #[.int .i64 (k : Int)] 3)); clear hown1 hgrow1)
              | (go_loud (refine wpList_append_num rfl (.tmp 40) (.tmp 42) rfl w.heap.size v1 (out ++ [(k : Int) - 1]).length (out ++ [(k : Int) - 1]) rfl (by exact HD.out.ow) wd.heap.size rfl (k : Int) (by exact Blk.new _ _ _) (by simp; omega) (by exact HD.out.bl.size) ?_); intro v2 we hown2 hgrow2))
            have hkd := HD.out.grown (out' := out ++ [(k : Int) - 1] ++ [(k : Int)]) (by simp) hgrow2 hown2
            clear hown2 hgrow2
            go_roundw
            case rel => exact ⟨k + 1, _, rfl, by omega, by go_num, by rw [HN.out]; simpa using hkd⟩
            case measure => simp [intOf]; omega
      · obtain rfl : k = l.length := by omega
        have hcs := hkk.cs
        rw [List.take_length] at hcs
        have hend := flush_end d m l
        unfold flushOut at hend
        have HN := Lib.hid (idx_end HFIT.out.ok hend (compressed_range d m l))
        have hlen := hcs.lens
        have hol := compTo_long d m l l.length
        generalize (compTo d m l l.length).1 = out at *
        have HKK := Lib.hid hkk
        clear hcs hkk hend
        rcases hlen with ⟨hn, H, hB⟩ | ⟨hp, s, lo, hi, hB, hS2⟩
        · have HX2 := Lib.hid (show RR = out by rw [HX.out, HN.out, hn]; simp)
          have HH := Lib.hid (holds_none B d m H wr hB)
          clear hn hB
          go_wp2_with (go_at_call 107; refine HH.out.mono ?_; rintro e wk ⟨rfl, rfl⟩)
          go_ret2
          exact ⟨_, by rw [HE.out]; rfl, by rw [HX2.out]; exact Rd.of_own HKK.out.ow, HKK.out.bl⟩
        · have HH := Lib.hid (holds_some B s d m _ _ _ lo hi wr hB hS2)
          generalize beg d m l = bg at *
          clear hB hS2
          cases bg
          · have HX2 := Lib.hid (show RR = out by rw [HX.out, HN.out]; simp)
            go_wp2_with (go_at_call 107; refine HH.out.mono ?_; rintro e wk ⟨rfl, rfl⟩)
            go_ret2
            exact ⟨_, by rw [HE.out]; rfl, by rw [HX2.out]; exact Rd.of_own HKK.out.ow, HKK.out.bl⟩
          · have HX2 := Lib.hid (show RR = out ++ [(l.length : Int) - 1] by rw [HX.out, HN.out]; simp [hp])
            have HO := Lib.hid (HKK.out.alloc (.cells #[.int .i64 ((l.length : Int) - 1)] 3))
            have hw1 : IntKind.i64.wrap ((l.length : Int) - 1) = (l.length : Int) - 1 := IntWalk.i64_in _ (by omega)
            go_wp2_with (first
              | (go_at_call 107; refine HH.out.mono ?_; rintro e wk ⟨rfl, rfl⟩)
              | (at_builtin; go_loud (refine wpList_append_num rfl (.tmp 46) (.tmp 50) rfl w.heap.size u7 out.length out rfl (by exact HO.out.ow) wr.heap.size rfl ((l.length : Int) - 1) (by exact Blk.new _ _ _) (by omega) (by exact HO.out.bl.size) ?_); intro v1 wd hown1 hgrow1))
            have hkd := HO.out.grown (out' := out ++ [(l.length : Int) - 1]) (by simp) hgrow1 hown1
            go_ret2
            exact ⟨_, by rw [HE.out]; rfl, by rw [HX2.out]; exact Rd.of_own hkd.ow, hkd.bl⟩
  · have hE' : (E != 0) = true := by simpa using hE
    have HX := Lib.hid (show RR = [] by rw [HRR.out, if_neg hE])
    clear hE
    go_wp2_with fail
    go_ret2
    exact ⟨_, rfl, by rw [HX.out]; exact Rd.nil _ _ _, hb⟩
end Go.Proofs.Ytblbfpokkpkcjaa
