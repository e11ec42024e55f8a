import Derived.Test.YtmcojidaimeijaaBz05
import Derived.Test.YtmcojidaimeijaaBz01
import Derived.Test.YtmcojidaimeijaaSerr
import Derived.Test.YtmcojidaimeijaaDist
import Derived.WalkKit
import Derived.Lib.Hide
import Derived.Test.YtmcojidaimeijaaRows
import Derived.Shelf.Bits.Mul64
import Derived.Test.YtmcojidaimeijaaDiv
import Derived.Test.YtmcojidaimeijaaRecon
import Derived.Deep.RegionHeld3
/- The contract of Compress (package compress). No condition. -/

namespace Go.Proofs.Ytmcojidaimeijaa
open Go.RowKit
set_option linter.unusedVariables false
set_option linter.unusedSimpArgs false

def erE (a b : Int) : Int := if a ≠ 0 then a else b
theorem erE_zero {a b : Int} (h : erE a b = 0) : a = 0 ∧ b = 0 := by unfold erE at h; split at h <;> omega
theorem serErr_fit {l : List Smp} (h : serErr l = 0) : FitL l := by
  have hg := (serErr_good h).2
  have ha : ∀ i, i < l.length → smpErr (atS l i) = 0 := fun i hi => hg _ (by unfold atS; rw [List.getD_eq_getElem?_getD, List.getElem?_eq_getElem hi]; exact List.getElem_mem hi)
  exact ⟨⟨fun i k hik hk => rise_ltA (serErr_rise h) i k hik hk, fun j hj hq => (smpErr_good (ha j hj)).2.2.2 hq⟩, fun i hi => ⟨(smpErr_good (ha i hi)).2.2.1, (smpErr_good (ha i hi)).1⟩⟩

theorem FitL.take {l : List Smp} (h : FitL l) (k : Nat) : FitL (l.take k) := by
  have e : ∀ i, i < (l.take k).length → atS (l.take k) i = atS l i ∧ i < l.length := fun i hi => by simp at hi; exact ⟨atS_take l k i (by omega), by omega⟩
  refine ⟨⟨fun i j hij hj => ?_, fun j hj hq => ?_⟩, fun i hi => ?_⟩
  · rw [(e i (by omega)).1, (e j hj).1]; exact h.ok.lt i j hij (e j hj).2
  · rw [(e j hj).1] at hq ⊢; exact h.ok.bad j (e j hj).2 hq
  · rw [(e i hi).1]; exact h.fit i (e i hi).2
theorem compTo_long (d m : Int) (l : List Smp) (k : Nat) : (compTo d m l k).1.length ≤ 2 * k := by
  rcases Nat.eq_zero_or_pos k with rfl | hk
  · simp [compTo]
  · exact (compTo_inv d m l k hk).2.2.2
theorem checkBoth_any (d m : Int) (v : Value) (l : List Smp) (w : World) (hR : RdS w 57 v l) :
    Calls Try.prog 72 #[.agg #[.int .i64 d, .int .i64 m], v] w fun e w' => e = .returned (.int .i64 (erE (doorErr d m) (serErr l))) ∧ Below w.heap.size w w' := by
  have hbw : Below w.heap.size w (w.alloc (.cells #[.int .i64 d, .int .i64 m] 50)) := (Below.refl _ w).alloc (Nat.le_refl _) _
  have HCD := Lib.hid (fun w => checkDoor_any d m w)
  have HCS := Lib.hid (fun (W : World) (hb : Below w.heap.size w W) => checkSeries_any v l W (Rd.below hR hb))
  have HO := Lib.hid (show erE (doorErr d m) (serErr l) = if doorErr d m ≠ 0 then doorErr d m else serErr l from rfl)
  generalize erE (doorErr d m) (serErr l) = R at *
  generalize doorErr d m = E at *
  generalize serErr l = S at *
  clear hR
  go_enter Try.func72, Try.ntmps72
  go_wp2_with fail
  refine (HCD.out _).mono ?_
  rintro e w1 ⟨rfl, hb1⟩
  have hb := hbw.trans (hb1.mono hbw.size)
  clear hbw hb1
  by_cases hE : E = 0
  · have hE' : (E != 0) = false := by simpa using hE
    have HX := Lib.hid (show R = S by rw [HO.out, if_neg (by simpa using hE)])
    clear hE
    go_wp2_with fail
    refine (HCS.out _ hb).mono ?_
    rintro e w2 ⟨rfl, hb2⟩
    go_wp2_with fail
    go_ret
    exact ⟨by rw [HX.out]; rfl, hb.trans (hb2.mono hb.size)⟩
  · have hE' : (E != 0) = true := by simpa using hE
    have HX := Lib.hid (show R = E by rw [HO.out, if_pos hE])
    clear hE
    go_wp2_with fail
    go_ret
    exact ⟨by rw [HX.out]; rfl, hb⟩

/-- What Compress returns. -/
def cprE (d m : Int) (l : List Smp) : Int := erE (doorErr d m) (serErr l)
def cprR (d m : Int) (l : List Smp) : List Int := if cprE d m l = 0 then compressed d m l else []

/-- Between two rounds of Compress: the compressor has taken k samples, their indices are kept. -/
structure CprK (w0 : World) (B c : Nat) (d m : Int) (l : List Smp) (k : Nat) (vo : Value) (out : List Int) (w : World) : Prop where
  cs : CompSt B w c d m (l.take k)
  ow : w.ownsRow w0.heap.size 3 1 vo out.length (out.map (Value.int .i64))
  bl : Below w0.heap.size w0 w
  sz : B ≤ w.heap.size
  lo : w0.heap.size ≤ B
section
variable {w0 w w' : World} {B c k : Nat} {d m : Int} {l : List Smp} {vo : Value} {out : List Int}
theorem CprK.step (h : CprK w0 B c d m l k vo out w) (hb : Below w.heap.size w w') : CprK w0 B c d m l k vo out w' :=
  ⟨h.cs.below hb, own_keep h.ow fun b _ _ hh => hb.block b (lt_of_heap hh), h.bl.trans (hb.mono h.bl.size), Nat.le_trans h.sz hb.size, h.lo⟩
theorem CprK.alloc (h : CprK w0 B c d m l k vo out w) (o : Obj) : CprK w0 B c d m l k vo out (w.alloc o) := h.step ((Below.refl _ w).alloc (Nat.le_refl _) o)
theorem CprK.grown (h : CprK w0 B c d m l k vo out w) {v' : Value} {out' : List Int} {n : Nat} (hn : n = out'.length) (hg : w.grownBy w' vo.ownBlock) (ho : w'.ownsRow w0.heap.size 3 1 v' n (out'.map (Value.int .i64))) : CprK w0 B c d m l k v' out' w' := by
  subst hn
  exact ⟨h.cs.grown h.ow (by decide) (by decide) hg, ho, h.bl.trans (below_grown h.ow h.bl.size hg), Nat.le_trans h.sz hg.size, h.lo⟩
end

set_option maxRecDepth 100000 in
set_option maxHeartbeats 4000000 in
theorem compress_any (d m : Int) (v : Value) (l : List Smp) (w : World) (hR : RdS w 57 v l) :
    Calls Try.prog 26 #[.agg #[.int .i64 d, .int .i64 m], v] w fun e w' => ∃ vr, e = .returned (.tuple #[vr, .int .i64 (cprE d m l)]) ∧ RdI w' vr (cprR d m l) ∧ Below w.heap.size w w' := by
  obtain ⟨pa, ca, rfl⟩ := hR.lenv
  have hbw : Below w.heap.size w (w.alloc (.cells #[.int .i64 d, .int .i64 m] 50)) := (Below.refl _ w).alloc (Nat.le_refl _) _
  have bd0 : Blk (w.alloc (.cells #[.int .i64 d, .int .i64 m] 50)) w.heap.size 50 #[.int .i64 d, .int .i64 m] := Blk.new w _ _
  have hcb := checkBoth_any d m (.slice pa l.length ca) l _ (Rd.below hR hbw)
  have HZ := Lib.hid (fun h : cprE d m l = 0 => And.intro (doorErr_ok (erE_zero h).1) (erE_zero h).2)
  have HRR := Lib.hid (show cprR d m l = if cprE d m l = 0 then compressed d m l else [] from rfl)
  rw [show erE (doorErr d m) (serErr l) = cprE d m l from rfl] at hcb
  generalize cprR d m l = RR at *
  generalize cprE d m l = E at *
  have HCB := Lib.hid hcb
  have HR := Lib.hid hR
  clear hcb hR
  go_enter Try.func26, Try.ntmps26
  go_upto_region 1 with fail
  generalize w.alloc (.cells #[.int .i64 d, .int .i64 m] 50) = w1 at *
  have e0 := bd0.cell 0
  have e1 := bd0.cell 1
  go_wp2_with fail
  refine HCB.out.mono ?_
  rintro e w2 ⟨rfl, hb2⟩
  have bd2 := bd0.below hb2 bd0.lt
  have hb := hbw.trans (hb2.mono hbw.size)
  clear hbw hb2 bd0 e0 e1
  by_cases hE : E = 0
  · have hE' : (E != 0) = false := by simpa using hE
    have HE := Lib.hid hE
    obtain ⟨⟨hd, hm⟩, hS⟩ := HZ.out hE
    have HX := Lib.hid (show RR = compressed d m l by rw [HRR.out, if_pos hE])
    have hfit := serErr_fit hS
    have hlong := (serErr_good hS).1
    clear hE HZ HRR HCB
    have e0 := bd2.cell 0
    have e1 := bd2.cell 1
    go_wp2_with fail
    have hk0 : CprK w w2.heap.size w2.heap.size d m l 0 (.slice none 0 0) [] (w2.alloc (.cells #[.int .i64 d, .int .i64 m, .pointer none, .int .i64 0, .int .i64 0, .int .i64 0] 119)) :=
      ⟨⟨Nat.le_refl _, .inl ⟨by simp, ⟨0, 0, 0⟩, Blk.new _ _ _⟩⟩, World.ownsRow_nil _ _ _ _, hb.alloc hb.size _, by simp, hb.size⟩
    generalize hwc : w2.alloc (.cells #[.int .i64 d, .int .i64 m, .pointer none, .int .i64 0, .int .i64 0, .int .i64 0] 119) = wc at *
    generalize w2.heap.size = B at *
    have HBC := Lib.hid hk0.bl
    have HFIT := Lib.hid hfit
    clear hfit hwc bd2 e0 e1 hb
    go_loopw [7, 23] (fun so i wr => ∃ (k : Nat) (vo : Value), so = vo ∧ k ≤ l.length ∧ i = .int .i64 (k : Int) ∧ CprK w B B d m l k vo (compTo d m l k).1 wr) (fun _ i _ => l.length - (intOf i).toNat)
    case atStart => exact ⟨0, _, rfl, by omega, rfl, hk0⟩
    case round =>
      obtain ⟨k, vo, rfl, hk, rfl, hkk⟩ := hrel
      by_cases hkl : k < l.length
      · have hRr : RdS wr _ (.slice pa l.length ca) l := Rd.below HR.out hkk.bl
        obtain ⟨b, off, cc, hv, hc1, hc2, hblt, hcell⟩ := RdS.at_ hRr (by omega)
        cases hv
        unfold maxLen at hc2
        obtain ⟨c0, c1, c2⟩ := hcell k hkl
        have hkx := hkk.alloc (.cells #[.int .i64 (atS l k).t, .int .i64 (atS l k).v, .int .i64 (atS l k).q] 57)
        have hpr := process_step B B d m (l.take k) (atS l k) _ hkx.cs (by rw [take_more l k hkl]; exact HFIT.out.take (k + 1)) hd hkx.sz
        have HST := Lib.hid (fun (bf nw : Bool) h1 h2 => idx_step (d := d) (m := m) HFIT.out.ok hkl (bf := bf) (nw := nw) h1 h2)
        have hol := compTo_long d m l k
        have HTM := Lib.hid (take_more l k hkl)
        generalize atS l k = x at *
        generalize (compTo d m l k).1 = out at *
        have HKX := Lib.hid hkx
        have HPR := Lib.hid hpr
        have hw1 : IntKind.i64.wrap ((k : Int) - 1) = (k : Int) - 1 := IntWalk.i64_in _ (by omega)
        clear hcell hRr hkx hpr hkk
        go_wp2_with fail
        refine HPR.out.mono ?_
        rintro e w6 ⟨bf, nw, rfl, har, hcs6, hcg6, hbf⟩
        rw [HTM.out] at hcs6
        have hk6 : CprK w B B d m l (k + 1) u7 out w6 := ⟨hcs6, hcg6.own HKX.out.ow (by decide) (by decide), HKX.out.bl.trans (hcg6.bl.mono HKX.out.lo), Nat.le_trans HKX.out.sz hcg6.bl.size, HKX.out.lo⟩
        have HN := Lib.hid (HST.out bf nw har hbf)
        have HK6 := Lib.hid hk6
        have hs6 := hk6.bl.size
        clear har hcs6 hcg6 hbf hk6 HST HPR HKX c0 c1 c2
        cases bf
        · cases nw
          · go_wp2_with fail
            go_roundw
            case rel => exact ⟨k + 1, _, rfl, by omega, by go_num, by rw [HN.out]; simpa using HK6.out⟩
            case measure => simp [intOf]; omega
          · have HO := Lib.hid (HK6.out.alloc (.cells #[.int .i64 (k : Int)] 3))
            go_wp2_with (at_builtin; go_loud (refine wpList_append_num rfl (.tmp 40) (.tmp 42) rfl w.heap.size u7 out.length out rfl (by exact HO.out.ow) w6.heap.size rfl (k : Int) (by exact Blk.new _ _ _) (by omega) (by exact HO.out.bl.size) ?_); intro v1 wd hown1 hgrow1)
            have hkd := HO.out.grown (out' := out ++ [(k : Int)]) (by simp) hgrow1 hown1
            clear hown1 hgrow1
            go_roundw
            case rel => exact ⟨k + 1, _, rfl, by omega, by go_num, by rw [HN.out]; simpa using hkd⟩
            case measure => simp [intOf]; omega
        · have HO := Lib.hid (HK6.out.alloc (.cells #[.int .i64 ((k : Int) - 1)] 3))
          cases nw
          · go_wp2_with (at_builtin; go_loud (refine wpList_append_num rfl (.tmp 34) (.tmp 37) rfl w.heap.size u7 out.length out rfl (by exact HO.out.ow) w6.heap.size rfl ((k : Int) - 1) (by exact Blk.new _ _ _) (by omega) (by exact HO.out.bl.size) ?_); intro v1 wd hown1 hgrow1)
            have hkd := HO.out.grown (out' := out ++ [(k : Int) - 1]) (by simp) hgrow1 hown1
            clear hown1 hgrow1
            go_roundw
            case rel => exact ⟨k + 1, _, rfl, by omega, by go_num, by rw [HN.out]; simpa using hkd⟩
            case measure => simp [intOf]; omega
          · go_wp2_with (at_builtin; first
              | (go_loud (refine wpList_append_num rfl (.tmp 34) (.tmp 37) rfl w.heap.size u7 out.length out rfl (by exact HO.out.ow) w6.heap.size rfl ((k : Int) - 1) (by exact Blk.new _ _ _) (by omega) (by exact HO.out.bl.size) ?_); intro v1 wd hown1 hgrow1; have HD := Lib.hid ((HO.out.grown (out' := out ++ [(k : Int) - 1]) (by simp) hgrow1 hown1).alloc (.cells #[.int .i64 (k : Int)] 3)); clear hown1 hgrow1)
              | (go_loud (refine wpList_append_num rfl (.tmp 40) (.tmp 42) rfl w.heap.size v1 (out ++ [(k : Int) - 1]).length (out ++ [(k : Int) - 1]) rfl (by exact HD.out.ow) wd.heap.size rfl (k : Int) (by exact Blk.new _ _ _) (by simp; omega) (by exact HD.out.bl.size) ?_); intro v2 we hown2 hgrow2))
            have hkd := HD.out.grown (out' := out ++ [(k : Int) - 1] ++ [(k : Int)]) (by simp) hgrow2 hown2
            clear hown2 hgrow2
            go_roundw
            case rel => exact ⟨k + 1, _, rfl, by omega, by go_num, by rw [HN.out]; simpa using hkd⟩
            case measure => simp [intOf]; omega
      · obtain rfl : k = l.length := by omega
        have hcs := hkk.cs
        rw [List.take_length] at hcs
        have hend := flush_end d m l
        unfold flushOut at hend
        have HN := Lib.hid (idx_end HFIT.out.ok hend (compressed_range d m l))
        have hlen := hcs.lens
        have hol := compTo_long d m l l.length
        generalize (compTo d m l l.length).1 = out at *
        have HKK := Lib.hid hkk
        clear hcs hkk hend
        rcases hlen with ⟨hn, H, hB⟩ | ⟨hp, s, lo, hi, hB, hS2⟩
        · have HX2 := Lib.hid (show RR = out by rw [HX.out, HN.out, hn]; simp)
          have HH := Lib.hid (holds_none B d m H wr hB)
          clear hn hB
          go_wp2_with (go_at_call 71; refine HH.out.mono ?_; rintro e wk ⟨rfl, rfl⟩)
          go_ret2
          exact ⟨_, by rw [HE.out]; rfl, by rw [HX2.out]; exact Rd.of_own HKK.out.ow, HKK.out.bl⟩
        · have HH := Lib.hid (holds_some B s d m _ _ _ lo hi wr hB hS2)
          generalize beg d m l = bg at *
          clear hB hS2
          cases bg
          · have HX2 := Lib.hid (show RR = out by rw [HX.out, HN.out]; simp)
            go_wp2_with (go_at_call 71; refine HH.out.mono ?_; rintro e wk ⟨rfl, rfl⟩)
            go_ret2
            exact ⟨_, by rw [HE.out]; rfl, by rw [HX2.out]; exact Rd.of_own HKK.out.ow, HKK.out.bl⟩
          · have HX2 := Lib.hid (show RR = out ++ [(l.length : Int) - 1] by rw [HX.out, HN.out]; simp [hp])
            have HO := Lib.hid (HKK.out.alloc (.cells #[.int .i64 ((l.length : Int) - 1)] 3))
            have hw1 : IntKind.i64.wrap ((l.length : Int) - 1) = (l.length : Int) - 1 := IntWalk.i64_in _ (by omega)
            go_wp2_with (first
              | (go_at_call 71; refine HH.out.mono ?_; rintro e wk ⟨rfl, rfl⟩)
              | (at_builtin; go_loud (refine wpList_append_num rfl (.tmp 46) (.tmp 50) rfl w.heap.size u7 out.length out rfl (by exact HO.out.ow) wr.heap.size rfl ((l.length : Int) - 1) (by exact Blk.new _ _ _) (by omega) (by exact HO.out.bl.size) ?_); intro v1 wd hown1 hgrow1))
            have hkd := HO.out.grown (out' := out ++ [(l.length : Int) - 1]) (by simp) hgrow1 hown1
            go_ret2
            exact ⟨_, by rw [HE.out]; rfl, by rw [HX2.out]; exact Rd.of_own hkd.ow, hkd.bl⟩
  · have hE' : (E != 0) = true := by simpa using hE
    have HX := Lib.hid (show RR = [] by rw [HRR.out, if_neg hE])
    clear hE
    go_wp2_with fail
    go_ret2
    exact ⟨_, rfl, by rw [HX.out]; exact Rd.nil _ _ _, hb⟩
end Go.Proofs.Ytmcojidaimeijaa

/- The contract of Minimum (package compress), over one of shortest. -/

namespace Go.Proofs.Ytmcojidaimeijaa
open Go.RowKit
set_option linter.unusedVariables false
set_option linter.unusedSimpArgs false

theorem path_fuel2 {nx : Nat → Nat} {n : Nat} (h : ∀ i, i < n → i < nx i ∧ nx i ≤ n) (k j i : Nat) (hk : n - i ≤ k) (hj : n - i ≤ j) : pathN nx n k i = pathN nx n j i := by
  induction k generalizing i j with
  | zero =>
    cases j with
    | zero => rfl
    | succ j => unfold pathN; rw [if_neg (by omega)]
  | succ k ih =>
    cases j with
    | zero => unfold pathN; rw [if_neg (by omega)]
    | succ j =>
      unfold pathN
      by_cases hi : i < n
      · obtain ⟨h1, h2⟩ := h i hi
        rw [if_pos hi, if_pos hi, ih j (nx i) (by omega) (by omega)]
      · rw [if_neg hi, if_neg hi]
theorem path_next {nx : Nat → Nat} {n : Nat} (h : ∀ i, i < n → i < nx i ∧ nx i ≤ n) (i : Nat) (hi : i < n) : pathN nx n (n - i) i = i :: pathN nx n (n - nx i) (nx i) := by
  obtain ⟨q, hq⟩ : ∃ q, n - i = q + 1 := ⟨n - i - 1, by omega⟩
  obtain ⟨h1, h2⟩ := h i hi
  rw [hq]
  conv => lhs; unfold pathN
  rw [if_pos hi, path_fuel2 h q (n - nx i) (nx i) (by omega) (by omega)]
theorem path_none {nx : Nat → Nat} {n : Nat} (i : Nat) (hi : n ≤ i) : pathN nx n (n - i) i = [] := by
  rw [show n - i = 0 by omega]; rfl

/-- What Minimum returns. -/
def minE (d m : Int) (l : List Smp) : Int := if erE (doorErr d m) (serErr l) ≠ 0 then erE (doorErr d m) (serErr l) else if 300 < l.length then 2 else 0
def minR (d m : Int) (l : List Smp) : List Int := if minE d m l = 0 then intsN (minTo (fun c => fitsB d m l (intsN c)) l.length (2 ^ l.length)) else []
theorem min_path {d m : Int} {l : List Smp} {N F : List Nat} (h : ∀ i, i < l.length → (N.getD i 0, F.getD i 0) = bestTo (nextB d m l i) (fun j => F.getD j 0) l.length l.length) :
    minTo (fun c => fitsB d m l (intsN c)) l.length (2 ^ l.length) = pathN (fun i => N.getD i 0) l.length l.length 0 ∧ ∀ i, i < l.length → i < N.getD i 0 ∧ N.getD i 0 ≤ l.length := by
  refine ⟨?_, fun i hi => ?_⟩
  · by_cases hl : 0 < l.length
    · exact min_way hl h
    · rw [show l.length = 0 by omega]
      simp [minTo, bitsL, pathN]
  · have ht : Tab (nextB d m l) l.length (fun j => F.getD j 0) (fun i => N.getD i 0) := tab_next h
    by_cases h2 : i + 1 = l.length
    · have := (ht.last i h2).1
      omega
    · obtain ⟨a, b, _⟩ := ht.step i (by omega)
      omega

set_option maxRecDepth 100000 in
set_option maxHeartbeats 4000000 in
theorem minimum_any (d m : Int) (v : Value) (l : List Smp) (w : World) (hR : RdS w 57 v l)
    (hsh : ∀ W, RdS W 57 v l → FitL l → l.length ≤ 300 → (0 ≤ d ∧ d ≤ 2000000) → Calls Try.prog 84 #[.agg #[.int .i64 d, .int .i64 m], v] W fun e w' => ∃ (g : Nat) (N F : List Nat), e = .returned (.slice (some ⟨g, 0, none⟩) l.length l.length) ∧ N.length = l.length ∧ (∀ i, i < l.length → (N.getD i 0, F.getD i 0) = bestTo (nextB d m l i) (fun j => F.getD j 0) l.length l.length) ∧ Blk w' g 3 (cellsN N) ∧ Below W.heap.size W w') :
    Calls Try.prog 39 #[.agg #[.int .i64 d, .int .i64 m], v] w fun e w' => ∃ vr, e = .returned (.tuple #[vr, .int .i64 (minE d m l)]) ∧ RdI w' vr (minR d m l) ∧ Below w.heap.size w w' := by
  obtain ⟨pa, ca, rfl⟩ := hR.lenv
  have hbw : Below w.heap.size w (w.alloc (.cells #[.int .i64 d, .int .i64 m] 50)) := (Below.refl _ w).alloc (Nat.le_refl _) _
  have bd0 : Blk (w.alloc (.cells #[.int .i64 d, .int .i64 m] 50)) w.heap.size 50 #[.int .i64 d, .int .i64 m] := Blk.new w _ _
  have hcb := checkBoth_any d m (.slice pa l.length ca) l _ (Rd.below hR hbw)
  have HZ := Lib.hid (fun h : erE (doorErr d m) (serErr l) = 0 => And.intro (doorErr_ok (erE_zero h).1) (erE_zero h).2)
  have HM := Lib.hid (show minE d m l = if erE (doorErr d m) (serErr l) ≠ 0 then erE (doorErr d m) (serErr l) else if 300 < l.length then 2 else 0 from rfl)
  have HRR := Lib.hid (show minR d m l = if minE d m l = 0 then intsN (minTo (fun c => fitsB d m l (intsN c)) l.length (2 ^ l.length)) else [] from rfl)
  generalize minR d m l = RR at *
  generalize minE d m l = ME at *
  generalize erE (doorErr d m) (serErr l) = E at *
  have HCB := Lib.hid hcb
  have HR := Lib.hid hR
  have HSH := Lib.hid hsh
  clear hcb hR hsh
  go_enter Try.func39, Try.ntmps39
  go_upto_region 1 with fail
  generalize w.alloc (.cells #[.int .i64 d, .int .i64 m] 50) = w1 at *
  have e0 := bd0.cell 0
  have e1 := bd0.cell 1
  go_wp2_with fail
  refine HCB.out.mono ?_
  rintro e w2 ⟨rfl, hb2⟩
  have bd2 := bd0.below hb2 bd0.lt
  have hb := hbw.trans (hb2.mono hbw.size)
  clear hbw hb2 bd0 e0 e1
  by_cases hE : E = 0
  · have hE' : (E != 0) = false := by simpa using hE
    obtain ⟨⟨hd, hm⟩, hS⟩ := HZ.out hE
    have hfit := serErr_fit hS
    have hlong := (serErr_good hS).1
    have HM2 := Lib.hid (show ME = if 300 < l.length then 2 else 0 by rw [HM.out, if_neg (by simp [hE])])
    clear hE HZ HM HCB
    by_cases hl : 300 < l.length
    · have HX := Lib.hid (show ME = 2 by rw [HM2.out, if_pos hl])
      have HX2 := Lib.hid (show RR = [] by rw [HRR.out, HX.out]; rfl)
      go_wp2_with fail
      go_ret2
      exact ⟨_, by rw [HX.out]; rfl, by rw [HX2.out]; exact Rd.nil _ _ _, hb⟩
    · have HX := Lib.hid (show ME = 0 by rw [HM2.out, if_neg hl])
      have HX2 := Lib.hid (show RR = intsN (minTo (fun c => fitsB d m l (intsN c)) l.length (2 ^ l.length)) by rw [HRR.out, HX.out, if_pos rfl])
      have hcall := HSH.out w2 (Rd.below HR.out hb) hfit (by omega) hd
      have HC := Lib.hid hcall
      have e0 := bd2.cell 0
      have e1 := bd2.cell 1
      clear hcall HSH hfit HM2 HRR
      go_wp2_with fail
      refine HC.out.mono ?_
      rintro e w3 ⟨g, N, F, rfl, hN, htab, hg, hb3⟩
      obtain ⟨hp1, hp2⟩ := min_path htab
      have HX3 := Lib.hid (show RR = intsN (pathN (fun i => N.getD i 0) l.length l.length 0) by rw [HX2.out, hp1])
      have HP := Lib.hid hp2
      have hb' := hb.trans (hb3.mono hb.size)
      clear hp1 hp2 htab HX2 HC e0 e1 bd2 hb hb3
      generalize l.length = n at *
      have hgl := hg.lt
      have HG := Lib.hid hg
      have HN := Lib.hid hN
      clear hg hN
      go_wp2_with fail
      go_loopw [7, 9] (fun o i wr => ∃ (c : List Nat) (j : Nat), j ≤ n ∧ i = .int .i64 (j : Int) ∧ c.length ≤ j ∧ pathN (fun i => N.getD i 0) n n 0 = c ++ pathN (fun i => N.getD i 0) n (n - j) j ∧ StK w3 o (intsN c) wr) (fun _ i _ => n - (intOf i).toNat)
      case atStart => exact ⟨[], 0, by omega, rfl, by simp, rfl, World.ownsRow_nil _ _ _ _, Below.refl _ _⟩
      case round =>
        obtain ⟨c, j, hj, rfl, hcl, hpath, hk⟩ := hrel
        have HPT := Lib.hid hpath
        clear hpath
        by_cases hlt : j < n
        · obtain ⟨q1, q2⟩ := HP.out j hlt
          have HPN := Lib.hid (path_next HP.out j hlt)
          have hil : (intsN c).length = c.length := by simp [intsN]
          have ho := hk.alloc (.cells #[.int .i64 (j : Int)] 3)
          have HO := Lib.hid ho
          have hso := ho.bl.size
          clear ho
          go_upto_region 10 with (at_builtin; go_loud (refine wpList_append_num rfl (.tmp 30) (.tmp 32) rfl w3.heap.size u7 (intsN c).length (intsN c) rfl (by exact HO.out.own) wr.heap.size rfl (j : Int) (by exact Blk.new _ _ _) (by omega) (by exact hso) ?_); intro v1 wd hown1 hgrow1)
          have hkd := HO.out.grown _ hgrow1 hown1
          have hgd : Blk wd g 3 (cellsN N) := HG.out.below hkd.bl hgl
          have hcd : wd.cell? ⟨g, j, none⟩ = some (.int .i64 ((N.getD j 0 : Nat) : Int)) := (Blk.cell hgd j).trans (cellsN_at N j (by rw [HN.out]; exact hlt))
          have hnl : ((j : Int)).toNat = j := by omega
          have hgd2 := lt_of_heap hgd
          have HPT2 := Lib.hid (show pathN (fun i => N.getD i 0) n n 0 = (c ++ [j]) ++ pathN (fun i => N.getD i 0) n (n - N.getD j 0) (N.getD j 0) by rw [HPT.out, HPN.out]; simp)
          have hcl2 : (c ++ [j]).length ≤ N.getD j 0 := by rw [List.length_append]; simp only [List.length_cons, List.length_nil]; omega
          have HIN := Lib.hid (show intsN (c ++ [j]) = intsN c ++ [(j : Int)] by simp [intsN])
          have HKD := Lib.hid hkd
          clear HPN HPT hown1 hgrow1 hgd HO hk hkd
          generalize hgj : N.getD j 0 = q at *
          have HGJ := Lib.hid hgj
          clear hgj
          go_wp2_with fail
          go_roundw
          case rel => exact ⟨c ++ [j], q, q2, rfl, hcl2, HPT2.out, by rw [HIN.out]; exact HKD.out⟩
          case measure => simp [intOf]; omega
        · obtain rfl : j = n := by omega
          have HE := Lib.hid (show RR = intsN c by rw [HX3.out, HPT.out, path_none _ (Nat.le_refl _), List.append_nil])
          go_wp2_with fail
          go_ret2
          exact ⟨_, by rw [HX.out]; rfl, by rw [HE.out]; exact Rd.of_own hk.own, hb'.trans (hk.bl.mono hb'.size)⟩
  · have hE' : (E != 0) = true := by simpa using hE
    have HX := Lib.hid (show ME = E by rw [HM.out, if_pos hE])
    have HX2 := Lib.hid (show RR = [] by rw [HRR.out, HX.out, if_neg hE])
    clear hE
    go_wp2_with fail
    go_ret2
    exact ⟨_, by rw [HX.out]; rfl, by rw [HX2.out]; exact Rd.nil _ _ _, hb⟩
end Go.Proofs.Ytmcojidaimeijaa

/- The contracts of what takes the samples with some indices: chosen, Keep (package compress). -/

namespace Go.Proofs.Ytmcojidaimeijaa
open Go.RowKit
set_option linter.unusedVariables false
set_option linter.unusedSimpArgs false


set_option maxRecDepth 100000 in
set_option maxHeartbeats 2000000 in
theorem chosen_any (v vk : Value) (l : List Smp) (ks : List Int) (w : World) (hR : RdS w 57 v l) (hK : RdI w vk ks) (hks : ks.length ≤ 100000) (hin : Inside l.length ks) :
    Calls Try.prog 53 #[v, vk] w fun e w' => ∃ vr, e = .returned vr ∧ w'.ownsRow w.heap.size 57 3 vr ks.length (cellsOf (choOf l ks)) ∧ Below w.heap.size w w' := by
  obtain ⟨pa, ca, rfl⟩ := hR.lenv
  obtain ⟨pk, ck, rfl⟩ := hK.lenv
  have HR := Lib.hid hR
  have HK := Lib.hid hK
  have HIN := Lib.hid hin
  obtain ⟨i0, hi0, hz0, hz1, hz2⟩ := info_parts info_smp
  clear hR hK hin
  go_enter Try.func53, Try.ntmps53
  go_wp2_with (at_make; go_loud (refine wpList_make_full w rfl (.tmp 9) (.tmp 9) 26 rfl w.heap.size 57 i0 _ 3 Try.underlying26 hi0 hz0 hz1 .i64 .i64 _ _ ks.length rfl rfl rfl rfl (by rw [hz2]; omega) (by simp only [maxLen]; omega) (Nat.le_refl _) ?_); intro w1 hown hgr)
  have hb1 : Below w.heap.size w w1 := (Below.refl w.heap.size w).grown hgr (Nat.le_refl _) (fun k hk => by simp [Value.ownBlock] at hk)
  rw [madeSmp] at hown
  rw [← choTo_zero l ks] at hown
  have HB1 := Lib.hid hb1
  have hsz1 := hb1.size
  clear hb1 hgr
  go_loopw [13] (fun i wr => ∃ j : Nat, j ≤ ks.length ∧ i = .int .i64 (j : Int) ∧ wr.ownsRow w.heap.size 57 3 (.slice (some ⟨w.heap.size, 0, none⟩) ks.length ks.length) ks.length (cellsOf (choTo l ks j)) ∧ Below w.heap.size w wr) (fun i _ => ks.length - (intOf i).toNat)
  case atStart => exact ⟨0, by omega, rfl, hown, HB1.out⟩
  case round =>
    obtain ⟨j, hj, rfl, ho, hbr⟩ := hrel
    by_cases hlt : j < ks.length
    · have hKr : RdI wr _ ks := HK.out.below hbr (Nat.le_refl _)
      obtain ⟨bk, ok, c, hv, hc1, hc2, hbklt, hkc⟩ := RdI.cells hKr (by omega)
      cases hv
      have k0 := hkc j hlt
      have hij := HIN.out j hlt
      have hkn : ∃ kn : Nat, ks[j] = (kn : Int) ∧ kn < l.length := ⟨ks[j].toNat, by omega, by omega⟩
      obtain ⟨kn, hkn, hknl⟩ := hkn
      have hst := choTo_step l ks j hlt
      rw [hkn] at k0
      rw [hkn, Int.toNat_natCast] at hst
      have hRr : RdS wr 57 _ l := HR.out.below hbr (Nat.le_refl _)
      obtain ⟨b, off, c', hv, hc3, hc4, hblt, hcell⟩ := RdS.at_ hRr (by omega)
      cases hv
      obtain ⟨z0, z1, z2⟩ := hcell kn hknl
      generalize atS l kn = x at *
      have hl := choTo_length l ks j hj
      obtain ⟨d0, d1, d2⟩ := own_cells ho hl j hlt
      have f0 := ho.frozenAt (j * 3)
      have f1 := ho.frozenAt (j * 3 + 1)
      have f2 := ho.frozenAt (j * 3 + 2)
      have hput := own_putN ho hl j hlt x
      rw [hst] at hput
      have HPUT := Lib.hid hput
      have HBR := Lib.hid hbr
      unfold maxLen at hc2 hc4
      have i1 : (0 : Int) ≤ (kn : Int) := by omega
      have i2 : (kn : Int) < (l.length : Int) := by omega
      generalize (choTo l ks j)[j] = y at *
      clear hst hput hkc hij hkn hRr hKr hcell ho hbr hown
      go_wp2_with fail
      go_roundw
      case rel => exact ⟨j + 1, by omega, by go_num, HPUT.out, Below.setCell (Below.setCell (Below.setCell HBR.out (Nat.le_refl _) _) (Nat.le_refl _) _) (Nat.le_refl _) _⟩
      case measure => simp [intOf]; omega
    · obtain rfl : j = ks.length := by omega
      go_wp2_with fail
      go_ret
      rw [choTo_end] at ho
      exact ⟨_, rfl, ho, hbr⟩

set_option maxRecDepth 100000 in
set_option maxHeartbeats 2000000 in
theorem keep_any (v vk : Value) (l : List Smp) (ks : List Int) (w : World) (hR : RdS w 57 v l) (hK : RdI w vk ks) (hks : ks.length ≤ 100000) :
    Calls Try.prog 15 #[v, vk] w fun e w' => ∃ vr, e = .returned (.tuple #[vr, .int .i64 (keptErr l ks)]) ∧ (keptErr l ks = 0 → RdS w' 57 vr (choOf l ks)) ∧ (keptErr l ks ≠ 0 → vr = .slice none 0 0) ∧ Below w.heap.size w w' := by
  have hck := checkKept_any v vk l ks w hR hK hks
  have hin : keptErr l ks = 0 → Inside l.length ks := fun h => by
    unfold keptErr at h
    split at h
    · rename_i h1; exact absurd h h1
    · exact (idxErr_inside h).2
  generalize keptErr l ks = E at *
  have HCK := Lib.hid hck
  have HR := Lib.hid hR
  have HK := Lib.hid hK
  have HIN := Lib.hid hin
  clear hck hR hK hin
  go_enter Try.func15, Try.ntmps15
  go_wp2_with fail
  refine HCK.out.mono ?_
  rintro e w1 ⟨rfl, hb1⟩
  by_cases hE : E = 0
  · have hE' : (E != 0) = false := by simpa using hE
    have HE := Lib.hid hE
    clear hE
    go_wp2_with fail
    refine (chosen_any v vk l ks w1 (HR.out.below hb1 (Nat.le_refl _)) (HK.out.below hb1 (Nat.le_refl _)) hks (HIN.out HE.out)).mono ?_
    rintro e w2 ⟨vr, rfl, ho, hb2⟩
    go_wp2_with fail
    go_ret2
    refine ⟨vr, by rw [HE.out]; rfl, fun _ => ?_, fun h => absurd HE.out h, hb1.trans (hb2.mono hb1.size)⟩
    have := Rd.of_own ho
    unfold RdS
    rw [choOf_length]
    exact this
  · have hE' : (E != 0) = true := by simpa using hE
    have HE := Lib.hid hE
    clear hE
    go_wp2_with fail
    go_ret2
    exact ⟨_, rfl, fun h => absurd h HE.out, fun _ => rfl, hb1⟩
end Go.Proofs.Ytmcojidaimeijaa

/- The contract of math/bits.Mul64. -/

namespace Go.Proofs.Ytmcojidaimeijaa
open Go.RowKit
set_option linter.unusedVariables false
set_option linter.unusedSimpArgs false

set_option maxRecDepth 100000 in
set_option maxHeartbeats 2000000 in
theorem mul64_any (x y : Nat) (hx : x < 18446744073709551616) (hy : y < 18446744073709551616) (w : World) :
    Calls Try.prog 110 #[.int .u64 x, .int .u64 y] w fun e w' => e = .returned (.tuple #[.int .u64 ((x * y / 18446744073709551616 : Nat) : Int), .int .u64 ((x * y % 18446744073709551616 : Nat) : Int)]) ∧ w = w' := by
  obtain ⟨b1, b2, b3, hhi⟩ := Lib.mul64_hi x y hx hy
  have ba := Lib.half_mul_le (a := x / 4294967296) (b := y / 4294967296) (by omega) (by omega)
  have bb := Lib.half_mul_le (a := x / 4294967296) (b := y % 4294967296) (by omega) (by omega)
  have bc := Lib.half_mul_le (a := x % 4294967296) (b := y / 4294967296) (by omega) (by omega)
  have c1 : x / 4294967296 * (y / 4294967296) < 18446744073709551616 := by omega
  have c2 : x / 4294967296 * (y % 4294967296) < 18446744073709551616 := by omega
  have c3 : x % 4294967296 * (y / 4294967296) < 18446744073709551616 := by omega
  have c4 : x / 4294967296 * (y / 4294967296) + (x / 4294967296 * (y % 4294967296) + x % 4294967296 * (y % 4294967296) / 4294967296) / 4294967296 < 18446744073709551616 := by omega
  have c5 : x / 4294967296 * (y / 4294967296) + (x / 4294967296 * (y % 4294967296) + x % 4294967296 * (y % 4294967296) / 4294967296) / 4294967296 + ((x / 4294967296 * (y % 4294967296) + x % 4294967296 * (y % 4294967296) / 4294967296) % 4294967296 + x % 4294967296 * (y / 4294967296)) / 4294967296 < 18446744073709551616 := by omega
  go_enter Try.func110, Try.ntmps110
  go_wp2
  simp only [Mul64.maskN x hx, Mul64.maskN y hy, Mul64.divN, Mul64.mulN, Mul64.addN, Mul64.wrapN _ b1, Mul64.wrapN _ c2, Mul64.wrapN _ b2, Mul64.maskN _ b2, Mul64.wrapN _ c3, Mul64.wrapN _ b3, Mul64.wrapN _ c1, Mul64.wrapN _ c4, Mul64.wrapN _ c5, Mul64.wrapM (x * y)]
  rw [hhi]
  go_ret2
  exact ⟨rfl, rfl⟩

end Go.Proofs.Ytmcojidaimeijaa

/- The contracts of math/bits.Mul64, and of what compares fractions by it (package compress, and the reference). -/

namespace Go.Proofs.Ytmcojidaimeijaa
open Go.RowKit
set_option linter.unusedVariables false
set_option linter.unusedSimpArgs false

/-- Is the fraction a less than b, both from 0 on? -/
def lessF (a b : Int × Int) : Bool := decide (a.1 * b.2 < b.1 * a.2)
theorem lessF_nat (a b c d : Nat) : lessF ((a : Int), (b : Int)) ((c : Int), (d : Int)) = decide (a * d < c * b) := by
  unfold lessF
  simp only [decide_eq_decide, ← Int.natCast_mul]
  omega

set_option maxRecDepth 100000 in
set_option maxHeartbeats 2000000 in
theorem less_any (a b c d : Nat) (w : World) (ha : a ≤ 9223372036854775807) (hb : b ≤ 9223372036854775807) (hc : c ≤ 9223372036854775807) (hd : d ≤ 9223372036854775807) :
    Calls Try.prog 76 #[.agg #[.int .i64 (a : Int), .int .i64 (b : Int)], .agg #[.int .i64 (c : Int), .int .i64 (d : Int)]] w fun e w' => e = .returned (.bool (decide (a * d < c * b))) ∧ Below w.heap.size w w' := by
  have w1 : IntKind.u64.wrap (a : Int) = (a : Int) := Mul64.wrapN a (by omega)
  have w2 : IntKind.u64.wrap (b : Int) = (b : Int) := Mul64.wrapN b (by omega)
  have w3 : IntKind.u64.wrap (c : Int) = (c : Int) := Mul64.wrapN c (by omega)
  have w4 : IntKind.u64.wrap (d : Int) = (d : Int) := Mul64.wrapN d (by omega)
  have m1 := fun w => mul64_any a d (by omega) (by omega) w
  have m2 := fun w => mul64_any c b (by omega) (by omega) w
  generalize hx : a * d = x at *
  generalize hy : c * b = y at *
  clear hx hy
  have hE : ∃ E, E = decide (x < y) := ⟨_, rfl⟩
  obtain ⟨E, hE⟩ := hE
  rw [← hE]
  have HE := Lib.hid hE
  generalize hh1 : x / 18446744073709551616 = h1 at *
  generalize hh2 : y / 18446744073709551616 = h2 at *
  generalize hl1 : x % 18446744073709551616 = l1 at *
  generalize hl2 : y % 18446744073709551616 = l2 at *
  have H := Lib.hid (And.intro hh1 (And.intro hh2 (And.intro hl1 hl2)))
  clear hh1 hh2 hl1 hl2
  have M1 := Lib.hid m1
  have M2 := Lib.hid m2
  clear m1 m2 hE
  go_enter Try.func76, Try.ntmps76
  go_wp2_with fail
  refine (M1.out _).mono ?_
  rintro e w1 ⟨rfl, rfl⟩
  go_wp2_with fail
  refine (M2.out _).mono ?_
  rintro e w1 ⟨rfl, rfl⟩
  have hbw : Below w.heap.size w ((w.alloc (.cells #[.int .i64 (a : Int), .int .i64 (b : Int)] 35)).alloc (.cells #[.int .i64 (c : Int), .int .i64 (d : Int)] 35)) := ((Below.refl _ w).alloc (Nat.le_refl _) _).alloc (by simp) _
  by_cases q1 : (h1 : Int) < (h2 : Int)
  · have q1' : decide ((h1 : Int) < (h2 : Int)) = true := by simpa using q1
    go_wp2_with fail
    go_ret
    exact ⟨ret_bool (by rw [HE.out]; obtain ⟨g1, g2, g3, g4⟩ := H.out; symm; simp; omega), hbw⟩
  · have q1' : decide ((h1 : Int) < (h2 : Int)) = false := by simpa using q1
    by_cases q2 : (h1 : Int) = (h2 : Int)
    · have q2' : ((h1 : Int) == (h2 : Int)) = true := by simpa using q2
      go_wp2_with fail
      go_ret
      exact ⟨ret_bool (by rw [HE.out]; obtain ⟨g1, g2, g3, g4⟩ := H.out; simp only [decide_eq_decide]; omega), hbw⟩
    · have q2' : ((h1 : Int) == (h2 : Int)) = false := by simpa using q2
      go_wp2_with fail
      go_ret
      exact ⟨ret_bool (by rw [HE.out]; obtain ⟨g1, g2, g3, g4⟩ := H.out; symm; simp; omega), hbw⟩
end Go.Proofs.Ytmcojidaimeijaa

/- The contracts of difference and Error (package compress). -/

namespace Go.Proofs.Ytmcojidaimeijaa
open Go.RowKit
set_option linter.unusedVariables false
set_option linter.unusedSimpArgs false

/-- By how much an integer and a fraction differ. -/
def diffF (n : Int) (f : Int × Int) : Int × Int := (dist (n * f.2) f.1, f.2)
/-- Numbers of a reconstruction. -/
def Sane (f : Int × Int) : Prop := (-2000000000000000000 ≤ f.1 ∧ f.1 ≤ 2000000000000000000) ∧ (1 ≤ f.2 ∧ f.2 ≤ 345686400000) ∧ Int.gcd f.1 f.2 = 1

theorem fracOf_gcd (n d : Int) (hd : 0 < d) : Int.gcd (fracOf n d).1 (fracOf n d).2 = 1 := by
  have h0 : 0 < Int.gcd n d := Int.gcd_pos_of_ne_zero_right _ (by omega)
  exact Int.gcd_ediv_gcd_ediv_gcd h0
theorem lineAt_sane (p n : Smp) (t : Int) (hp : Right p) (hn : Right n) (hpn : p.t < n.t) (ht : p.t ≤ t ∧ t ≤ n.t) : Sane (lineAt p n t) := by
  obtain ⟨⟨p1, p2⟩, p3, p4⟩ := hp
  obtain ⟨⟨n1, n2⟩, n3, n4⟩ := hn
  have hm1 := mul_bound p.v (n.t - p.t) 1000000 345686400000 (by omega) (by omega)
  have hm2 := mul_bound (n.v - p.v) (t - p.t) 2000000 345686400000 (by omega) (by omega)
  unfold lineAt
  obtain ⟨hg0, hg1, hg2⟩ := frac_parts (p.v * (n.t - p.t) + (n.v - p.v) * (t - p.t)) (n.t - p.t) (by omega)
  have hb1 := tdiv_bound (p.v * (n.t - p.t) + (n.v - p.v) * (t - p.t)) _ hg0
  have hb2 := tdiv_bound (n.t - p.t) _ hg0
  have hgg := fracOf_gcd (p.v * (n.t - p.t) + (n.v - p.v) * (t - p.t)) (n.t - p.t) (by omega)
  have hpos : 0 < (fracOf (p.v * (n.t - p.t) + (n.v - p.v) * (t - p.t)) (n.t - p.t)).2 := by
    unfold fracOf
    exact Int.ediv_pos_of_pos_of_dvd (by omega) (by omega) (Int.gcd_dvd_right ..)
  rw [hg1] at hb1
  rw [hg2] at hb2
  exact ⟨by omega, by omega, hgg⟩
theorem recon_sane (l : List Smp) (t : Int) (h : Rise none l) (hr : ∀ i, i < l.length → Right (atS l i)) (hb : reconB l t = true) : Sane (reconV l t) := by
  have hpa := pos_around l t h
  unfold reconB reconV reconOf at *
  have hql := posF_le l t
  generalize posF l t = q at *
  split at hb
  · simp at hb
  · rename_i h1
    rw [if_neg h1]
    have hq : q < l.length := by omega
    split at hb
    · rename_i h2
      rw [if_pos h2]
      have := hr q hq
      obtain ⟨_, h3, h4⟩ := this
      refine ⟨by simp; omega, by simp, by simp [Int.gcd]⟩
    · rename_i h2
      rw [if_neg h2]
      split at hb
      · simp at hb
      · rename_i h3
        rw [if_neg h3]
        have h4 := hpa.1 (q - 1) (by omega) (by omega)
        have h5 := hpa.2 hq
        exact lineAt_sane _ _ _ (hr _ (by omega)) (hr _ hq) (by omega) (by omega)
theorem diffF_bounds {n : Int} {f : Int × Int} (hf : Sane f) (hn : -1000000 ≤ n ∧ n ≤ 1000000) : (-1000000000000000000 ≤ n * f.2 ∧ n * f.2 ≤ 1000000000000000000) ∧ (0 ≤ (diffF n f).1 ∧ (diffF n f).1 ≤ 4000000000000000000) ∧ (1 ≤ (diffF n f).2 ∧ (diffF n f).2 ≤ 345686400000) := by
  obtain ⟨h1, h2, _⟩ := hf
  have hm := mul_bound n f.2 1000000 345686400000 (by omega) (by omega)
  unfold diffF dist
  simp only
  refine ⟨by omega, ?_, h2⟩
  split <;> omega

set_option maxRecDepth 100000 in
set_option maxHeartbeats 2000000 in
theorem difference_walk (n a b M D : Int) (w : World) (hM : IntKind.i64.wrap (n * b) = M) (hd : ∀ w, Calls Try.prog 109 #[.int .i64 M, .int .i64 a] w fun e w' => e = .returned (.int .i64 D) ∧ w = w') :
    Calls Try.prog 75 #[.int .i64 n, .agg #[.int .i64 a, .int .i64 b]] w fun e w' => e = .returned (.agg #[.int .i64 D, .int .i64 b]) ∧ Below w.heap.size w w' := by
  have c0 : ((w.alloc (.cells #[.int .i64 a, .int .i64 b] 35)).alloc (.cells #[.int .i64 0, .int .i64 0] 35)).cell? ⟨w.heap.size, 0, none⟩ = some (.int .i64 a) := ((Blk.new w 35 #[.int .i64 a, .int .i64 b]).alloc (.cells #[.int .i64 0, .int .i64 0] 35)).cell 0
  have c1 : ((w.alloc (.cells #[.int .i64 a, .int .i64 b] 35)).alloc (.cells #[.int .i64 0, .int .i64 0] 35)).cell? ⟨w.heap.size, 1, none⟩ = some (.int .i64 b) := ((Blk.new w 35 #[.int .i64 a, .int .i64 b]).alloc (.cells #[.int .i64 0, .int .i64 0] 35)).cell 1
  have hbw : Below w.heap.size w ((w.alloc (.cells #[.int .i64 a, .int .i64 b] 35)).alloc (.cells #[.int .i64 0, .int .i64 0] 35)) := ((Below.refl _ w).alloc (Nat.le_refl _) _).alloc (by simp) _
  have HBW := Lib.hid hbw
  have HDD := Lib.hid hd
  clear hd hbw
  go_enter Try.func75, Try.ntmps75
  go_wp2_with fail
  go_region_with (first | (go_at_call 109; refine (HDD.out _).mono ?_; rintro e wk ⟨rfl, rfl⟩))
  all_goals
    go_wp2_with fail
    refine bodyPost_ret (v := .agg #[.int .i64 D, .int .i64 b]) (by simp [results, Try.results75, go_sem]) rfl ⟨rfl, ?_⟩
    exact bdrewN (((Below.refl _ w).alloc (Nat.le_refl _) _).alloc (by simp) _) 1
theorem difference_any (n : Int) (f : Int × Int) (w : World) (hf : Sane f) (hn : -1000000 ≤ n ∧ n ≤ 1000000) :
    Calls Try.prog 75 #[.int .i64 n, .agg #[.int .i64 f.1, .int .i64 f.2]] w fun e w' => e = .returned (.agg #[.int .i64 (diffF n f).1, .int .i64 (diffF n f).2]) ∧ Below w.heap.size w w' := by
  have hb := diffF_bounds hf hn
  have h1 := hf.1
  exact difference_walk n f.1 f.2 (n * f.2) (diffF n f).1 w (IntWalk.i64_in _ (by omega)) (fun w => distance_any (n * f.2) f.1 w (by omega) (by omega))
end Go.Proofs.Ytmcojidaimeijaa

/- The contract of Error (package compress). -/

namespace Go.Proofs.Ytmcojidaimeijaa
open Go.RowKit
set_option linter.unusedVariables false
set_option linter.unusedSimpArgs false

/-- Sample i of l against the archived samples K: is there a reconstruction, and by how much is it off. -/
def hasI (l K : List Smp) (i : Nat) : Bool := reconB K (atS l i).t && decide ((atS l i).q ≠ 2)
def offV (l K : List Smp) (i : Nat) : Int × Int := diffF (atS l i).v (reconV K (atS l i).t)
/-- The index of the greatest one among the first j; -1 for none. -/
def bst (l K : List Smp) : Nat → Int
  | 0 => -1
  | j + 1 => if hasI l K j = true ∧ (bst l K j < 0 ∨ lessF (offV l K (bst l K j).toNat) (offV l K j) = true) then (j : Int) else bst l K j
theorem bst_range (l K : List Smp) (j : Nat) : -1 ≤ bst l K j ∧ bst l K j < j := by
  induction j with
  | zero => simp [bst]
  | succ j ih =>
    simp only [bst]
    split <;> omega
theorem bst_has (l K : List Smp) (j : Nat) (h : 0 ≤ bst l K j) : hasI l K (bst l K j).toNat = true := by
  induction j with
  | zero => simp [bst] at h
  | succ j ih =>
    simp only [bst] at h ⊢
    split
    · rename_i h1; simpa using h1.1
    · rename_i h1
      rw [if_neg h1] at h
      exact ih h
/-- What Error returns: the fraction, the index, the error. -/
def errE (l : List Smp) (ks : List Int) : Int := if keptErr l ks ≠ 0 then keptErr l ks else if bst l (choOf l ks) l.length < 0 then 8 else 0
def errF (l : List Smp) (ks : List Int) : Int × Int := if errE l ks = 0 then offV l (choOf l ks) (bst l (choOf l ks) l.length).toNat else (0, 0)
def errI (l : List Smp) (ks : List Int) : Int := if errE l ks = 0 then bst l (choOf l ks) l.length else 0

/-- What the checks say of the samples and of those that are chosen. -/
theorem kept_good {l : List Smp} {ks : List Int} (h : keptErr l ks = 0) : serErr l = 0 ∧ idxErr l.length ks = 0 ∧ Inside l.length ks ∧ ks.length ≤ l.length ∧ Rise none (choOf l ks) ∧ (∀ i, i < (choOf l ks).length → Right (atS (choOf l ks) i)) := by
  unfold keptErr at h
  split at h
  · rename_i h1; exact absurd h h1
  · rename_i h1
    have hs : serErr l = 0 := by simpa using h1
    obtain ⟨hle, hin⟩ := idxErr_inside h
    have hfrom : idxFrom l.length none ks = 0 := by unfold idxErr at h; rw [if_neg (by omega)] at h; exact h
    refine ⟨hs, h, hin, hle, choOf_rise (serErr_rise hs) hfrom (fun t ht => by cases ht), fun i hi => ?_⟩
    rw [choOf_length] at hi
    have e : atS (choOf l ks) i = atS l (ks[i]).toNat := by simp [atS, List.getD_eq_getElem?_getD, choOf_get l ks i hi]
    rw [e]
    exact ⟨(serErr_vt hs _).2, (serErr_vt hs _).1⟩
theorem offV_good {l : List Smp} {ks : List Int} (h : keptErr l ks = 0) (i : Nat) (hh : hasI l (choOf l ks) i = true) : Sane (reconV (choOf l ks) (atS l i).t) ∧ (0 ≤ (offV l (choOf l ks) i).1 ∧ (offV l (choOf l ks) i).1 ≤ 4000000000000000000) ∧ (1 ≤ (offV l (choOf l ks) i).2 ∧ (offV l (choOf l ks) i).2 ≤ 345686400000) := by
  obtain ⟨hs, _, _, _, hr, hR⟩ := kept_good h
  simp only [hasI, Bool.and_eq_true] at hh
  have hsane := recon_sane _ _ hr hR hh.1
  exact ⟨hsane, (diffF_bounds hsane (serErr_vt hs i).1).2⟩

/-- What a round of Error keeps: the box of the greatest difference; the result's box; the series, the archived samples. -/
structure ErK (w0 : World) (bm : Nat) (v va : Value) (l K : List Smp) (m : Int × Int) (w : World) : Prop where
  br : Blk w w0.heap.size 35 #[.int .i64 0, .int .i64 0]
  bm : Blk w bm 35 #[.int .i64 m.1, .int .i64 m.2]
  rl : RdS w 57 v l
  ra : RdS w 57 va K
  bl : Below w0.heap.size w0 w
theorem ErK.step {w0 w w' : World} {bm : Nat} {v va : Value} {l K : List Smp} {m : Int × Int} (h : ErK w0 bm v va l K m w) (hb : Below w.heap.size w w') : ErK w0 bm v va l K m w' :=
  ⟨h.br.below hb h.br.lt, h.bm.below hb h.bm.lt, h.rl.below hb (Nat.le_refl _), h.ra.below hb (Nat.le_refl _), h.bl.trans (hb.mono h.bl.size)⟩
theorem ErK.alloc {w0 w : World} {bm : Nat} {v va : Value} {l K : List Smp} {m : Int × Int} (h : ErK w0 bm v va l K m w) (o : Obj) : ErK w0 bm v va l K m (w.alloc o) := h.step ((Below.refl _ w).alloc (Nat.le_refl _) o)
theorem Blk.set2 {w : World} {b : Nat} {t : TypeId} {x y : Value} (h : Blk w b t #[x, y]) (x' y' : Value) : Blk ((w.setCell ⟨b, 0, none⟩ x').setCell ⟨b, 1, none⟩ y') b t #[x', y'] := by
  unfold Blk at h ⊢
  simp [World.setCell, Array.getElem?_modify, h]
theorem ErK.setM {w0 w : World} {bm : Nat} {v va : Value} {l K : List Smp} {m : Int × Int} (h : ErK w0 bm v va l K m w) (hne : w0.heap.size < bm) (x : Int × Int) : ErK w0 bm v va l K x ((w.setCell ⟨bm, 0, none⟩ (.int .i64 x.1)).setCell ⟨bm, 1, none⟩ (.int .i64 x.2)) := by
  obtain ⟨cs, h3⟩ := h.bm.setSame (i := 0) (.int .i64 x.1)
  exact ⟨(h.br.setOther (by simp; omega) _).setOther (by simp; omega) _, h.bm.set2 _ _,
    Rd.setCell (Rd.setCell h.rl _ _ (h.bm.no (by decide))) _ _ (h3.no (by decide)), Rd.setCell (Rd.setCell h.ra _ _ (h.bm.no (by decide))) _ _ (h3.no (by decide)),
    (h.bl.setCell (by simp; omega) _).setCell (by simp; omega) _⟩

set_option maxRecDepth 100000 in
set_option maxHeartbeats 4000000 in
theorem error_any (v vk : Value) (l : List Smp) (ks : List Int) (w : World) (hR : RdS w 57 v l) (hK : RdI w vk ks) (hks : ks.length ≤ 100000) :
    Calls Try.prog 31 #[v, vk] w fun e w' => e = .returned (.tuple #[.agg #[.int .i64 (errF l ks).1, .int .i64 (errF l ks).2], .int .i64 (errI l ks), .int .i64 (errE l ks)]) ∧ Below w.heap.size w w' := by
  have hE : errE l ks = if keptErr l ks ≠ 0 then keptErr l ks else if bst l (choOf l ks) l.length < 0 then 8 else 0 := rfl
  have hF : errF l ks = if errE l ks = 0 then offV l (choOf l ks) (bst l (choOf l ks) l.length).toNat else (0, 0) := rfl
  have hI : errI l ks = if errE l ks = 0 then bst l (choOf l ks) l.length else 0 := rfl
  generalize errE l ks = E at *
  generalize errF l ks = F at *
  generalize errI l ks = I at *
  have HE := Lib.hid hE
  have HF := Lib.hid hF
  have HI := Lib.hid hI
  obtain ⟨pa, ca, rfl⟩ := hR.lenv
  have HR := Lib.hid hR
  have HK := Lib.hid hK
  have hB0 := Blk.new w 35 #[.int .i64 0, .int .i64 0]
  have hck := checkKept_any _ vk l ks (w.alloc (.cells #[.int .i64 0, .int .i64 0] 35)) (Rd.alloc hR _) (Rd.alloc hK _) hks
  have HB0 := Lib.hid hB0
  have HCK := Lib.hid hck
  clear hE hF hI hR hK hB0 hck
  go_enter Try.func31, Try.ntmps31
  go_wp2_with fail
  refine HCK.out.mono ?_
  rintro e w1 ⟨rfl, hb1⟩
  have hB1 := HB0.out.below hb1 (by simp)
  have hb01 : Below w.heap.size w w1 := ((Below.refl _ w).alloc (Nat.le_refl _) _).trans (hb1.mono (by simp))
  clear hb1
  by_cases hKE : keptErr l ks = 0
  · have hKE' : (keptErr l ks != 0) = false := by simpa using hKE
    have HKE := Lib.hid hKE
    obtain ⟨hs, hidx, hin, hle, hrise, hright⟩ := kept_good hKE
    have hlong := (serErr_good hs).1
    have hclen := choOf_length l ks
    have hsz := hb01.size
    have hlt1 := hB1.lt
    have HB1 := Lib.hid hB1
    have HB01 := Lib.hid hb01
    have HS := Lib.hid hs
    have HIN := Lib.hid hin
    have HRISE := Lib.hid hrise
    have HRIGHT := Lib.hid hright
    have HOG := Lib.hid (fun i hh => offV_good hKE i hh)
    clear hKE hs hidx hin hrise hright hB1 hb01
    go_wp2_with fail
    refine (chosen_any _ vk l ks _ (by exact Rd.alloc (HR.out.below HB01.out (Nat.le_refl _)) _) (by exact Rd.alloc (HK.out.below HB01.out (Nat.le_refl _)) _) hks HIN.out).mono ?_
    rintro e w2 ⟨va, rfl, hova, hb2⟩
    have hra : RdS w2 57 va (choOf l ks) := by
      have := Rd.of_own hova
      unfold RdS
      rw [hclen]
      exact this
    have hk2 : ErK w w1.heap.size (.slice pa l.length ca) va l (choOf l ks) (0, 0) w2 :=
      ⟨(HB1.out.alloc _).below hb2 (by simp; omega), (Blk.new w1 _ _).below hb2 (by simp), (RdS.below (Rd.alloc (HR.out.below HB01.out (Nat.le_refl _)) _) hb2 (Nat.le_refl _)), hra, (HB01.out.alloc hsz _).trans (hb2.mono (by simp; omega))⟩
    generalize choOf l ks = K at *
    have HK2 := Lib.hid hk2
    have hbr := bst_range l K
    have hbh := bst_has l K
    have hbs : ∀ j, bst l K (j + 1) = if hasI l K j = true ∧ (bst l K j < 0 ∨ lessF (offV l K (bst l K j).toNat) (offV l K j) = true) then (j : Int) else bst l K j := fun j => rfl
    have HBR := Lib.hid hbr
    have HBH := Lib.hid hbh
    have HBS := Lib.hid hbs
    clear hova hb2 hra hk2 hbr hbh hbs
    go_wp2_with fail
    go_loopw [9, 28] (fun si i wr => ∃ j : Nat, j ≤ l.length ∧ i = .int .i64 (j : Int) ∧ si = .int .i64 (bst l K j) ∧ ErK w w1.heap.size (.slice pa l.length ca) va l K (if bst l K j < 0 then (0, 0) else offV l K (bst l K j).toNat) wr) (fun _ i _ => l.length - (intOf i).toNat)
    case atStart => exact ⟨0, by omega, rfl, rfl, HK2.out⟩
    case round =>
      obtain ⟨j, hj, rfl, rfl, hk⟩ := hrel
      by_cases hlt : j < l.length
      · obtain ⟨b, off, c', hv, hc3, hc4, hblt, hcell⟩ := RdS.at_ hk.rl (by omega)
        cases hv
        unfold maxLen at hc4
        obtain ⟨z0, z1, z2⟩ := hcell j hlt
        have hst := HBS.out j
        have hhas : hasI l K j = (reconB K (atS l j).t && decide ((atS l j).q ≠ 2)) := rfl
        have hoff : offV l K j = diffF (atS l j).v (reconV K (atS l j).t) := rfl
        have hog := HOG.out j
        have hvt := (serErr_vt HS.out j).1
        have hre := reconstructed_any va K (atS l j).t _ (hk.alloc (.cells #[.int .i64 (atS l j).t, .int .i64 (atS l j).v, .int .i64 (atS l j).q] 57)).ra HRISE.out (by omega) HRIGHT.out
        have hks := hk.alloc (.cells #[.int .i64 (atS l j).t, .int .i64 (atS l j).v, .int .i64 (atS l j).q] 57)
        have hbs := Blk.new wr 57 #[.int .i64 (atS l j).t, .int .i64 (atS l j).v, .int .i64 (atS l j).q]
        have hbrj := HBR.out j
        have hbog : 0 ≤ bst l K j → hasI l K (bst l K j).toNat = true := HBH.out j
        have hog2 := HOG.out (bst l K j).toNat
        generalize hT : reconV K (atS l j).t = V at *
        generalize reconB K (atS l j).t = RB at *
        generalize atS l j = x at *
        generalize hOE : offV l K j = O at *
        generalize hasI l K j = HH at *
        generalize hB2E : bst l K (j + 1) = b2 at *
        generalize hasI l K (bst l K j).toNat = HB2 at *
        generalize hOBE : offV l K (bst l K j).toNat = OB at *
        generalize bst l K j = b1 at *
        have HOE := Lib.hid hOE
        have HB2E := Lib.hid hB2E
        have HOBE := Lib.hid hOBE
        have HST := Lib.hid hst
        have HHAS := Lib.hid hhas
        have HOFF := Lib.hid hoff
        have HOGJ := Lib.hid hog
        have HOGB := Lib.hid hog2
        have HBOG := Lib.hid hbog
        have HRE := Lib.hid hre
        have HKS := Lib.hid hks
        have HBSX := Lib.hid hbs
        clear hst hhas hoff hog hog2 hbog hre hks hbs hcell hk hT hOE hB2E hOBE
        go_wp2_with fail
        refine HRE.out.mono ?_
        rintro e w3 ⟨rfl, hb3⟩
        have hk3 := (HKS.out.step hb3).alloc (.cells #[.int .i64 V.1, .int .i64 V.2] 35)
        have hs3 := (HBSX.out.below hb3 (by simp)).alloc (.cells #[.int .i64 V.1, .int .i64 V.2] 35)
        have hv3 := Blk.new w3 35 #[.int .i64 V.1, .int .i64 V.2]
        have HK3 := Lib.hid hk3
        have HS3 := Lib.hid hs3
        have HV3 := Lib.hid hv3
        have s2 := hs3.cell 2
        clear hb3 hk3 hs3 hv3
        by_cases hRB : RB = true
        · subst hRB
          by_cases hq : x.q = 2
          · have hq' : (x.q == 2) = true := by simpa using hq
            have HB := Lib.hid (show b2 = b1 by rw [HST.out, HHAS.out, if_neg (by simp [hq])])
            clear hq
            go_wp2_with fail
            go_roundw
            case rel => exact ⟨j + 1, by omega, by go_num, by rw [HB2E.out, HB.out], by rw [HB2E.out, HB.out, HOBE.out]; exact HK3.out⟩
            case measure => simp [intOf]; omega
          · have hq' : (x.q == 2) = false := by simpa using hq
            have hHH : HH = true := by rw [HHAS.out]; simp [hq]
            obtain ⟨hsane, ho1, ho2⟩ := HOGJ.out hHH
            have hdf := fun w => difference_any x.v V w hsane hvt
            rw [← HOFF.out] at hdf
            have HDF := Lib.hid hdf
            have s1 := HS3.out.cell 1
            have v0 := HV3.out.cell 0
            have v1 := HV3.out.cell 1
            have HHT := Lib.hid hHH
            clear hq hHH hsane hdf
            go_wp2_with fail
            refine (HDF.out _).mono ?_
            rintro e w4 ⟨rfl, hb4⟩
            have hk4 := (HK3.out.step hb4).alloc (.cells #[.int .i64 O.1, .int .i64 O.2] 35)
            have ho4 := Blk.new w4 35 #[.int .i64 O.1, .int .i64 O.2]
            have HK4 := Lib.hid hk4
            have m0 := hk4.bm.cell 0
            have m1 := hk4.bm.cell 1
            have f0 := hk4.bm.frozen 0
            have f1 := hk4.bm.frozen 1
            have o0 := ho4.cell 0
            have o1 := ho4.cell 1
            clear hb4 hk4 s1 v0 v1 s2
            by_cases hneg : b1 < 0
            · have hneg' : decide (b1 < 0) = true := by simpa using hneg
              have HB := Lib.hid (show b2 = (j : Int) by rw [HST.out, if_pos ⟨HHT.out, .inl hneg⟩])
              have hko := HK4.out.setM hlt1 O
              have HKO := Lib.hid hko
              have HO4 := Lib.hid ho4
              rw [if_pos hneg] at m0 m1
              clear hneg hko ho4
              go_wp2_with fail
              go_roundw
              case rel => exact ⟨j + 1, by omega, by go_num, by rw [HB2E.out, HB.out], by rw [HB2E.out, HB.out, if_neg (by omega), Int.toNat_natCast, HOE.out]; exact HKO.out⟩
              case measure => simp [intOf]; omega
            · have hneg' : decide (b1 < 0) = false := by simpa using hneg
              obtain ⟨_, hp1, hp2⟩ := HOGB.out (HBOG.out (by omega))
              rw [if_neg hneg] at m0 m1
              have hn : ∃ a b c d : Nat, OB = ((a : Int), (b : Int)) ∧ O = ((c : Int), (d : Int)) := ⟨OB.1.toNat, OB.2.toNat, O.1.toNat, O.2.toNat, by ext <;> simp <;> omega, by ext <;> simp <;> omega⟩
              obtain ⟨na, nb, nc, nd, hOB, hO⟩ := hn
              have hls : ∀ w, Calls Try.prog 76 #[.agg #[.int .i64 OB.1, .int .i64 OB.2], .agg #[.int .i64 O.1, .int .i64 O.2]] w fun e w' => e = .returned (.bool (lessF OB O)) ∧ Below w.heap.size w w' := fun w => by
                have q1 : na ≤ 9223372036854775807 := by rw [hOB] at hp1; simp at hp1; omega
                have q2 : nb ≤ 9223372036854775807 := by rw [hOB] at hp2; simp at hp2; omega
                have q3 : nc ≤ 9223372036854775807 := by rw [hO] at ho1; simp at ho1; omega
                have q4 : nd ≤ 9223372036854775807 := by rw [hO] at ho2; simp at ho2; omega
                rw [hOB, hO, lessF_nat]
                exact less_any na nb nc nd w q1 q2 q3 q4
              have HLS := Lib.hid hls
              have hmm0 := m0
              have hmm1 := m1
              have HO4 := Lib.hid ho4
              have HNEG := Lib.hid hneg
              clear hls hOB hO hp1 hp2 ho1 ho2 hneg ho4
              go_wp2_with fail
              refine (HLS.out _).mono ?_
              rintro e w5 ⟨rfl, hb5⟩
              have hk5 := HK4.out.step hb5
              have ho5 := HO4.out.below hb5 (by simp)
              have HK5 := Lib.hid hk5
              have n0 := hk5.bm.cell 0
              have n1 := hk5.bm.cell 1
              have h0 := hk5.bm.frozen 0
              have h1 := hk5.bm.frozen 1
              have p0 := ho5.cell 0
              have p1 := ho5.cell 1
              rw [if_neg (show ¬ b1 < 0 by have := HNEG.out; omega)] at n0 n1
              have hbx : b2 = if lessF OB O = true then (j : Int) else b1 := by
                rw [HST.out]
                by_cases hlf : lessF OB O = true
                · rw [if_pos hlf, if_pos ⟨HHT.out, .inr hlf⟩]
                · rw [if_neg hlf, if_neg (fun h => h.2.elim (fun q => absurd q (by have := HNEG.out; omega)) hlf)]
              generalize lessF OB O = LB at *
              have HBX := Lib.hid hbx
              clear hb5 hk5 ho5 hbx m0 m1 f0 f1 o0 o1 hmm0 hmm1
              cases LB
              · have HB := Lib.hid (show b2 = b1 by rw [HBX.out, if_neg (by simp)])
                go_wp2_with fail
                go_roundw
                case rel => exact ⟨j + 1, by omega, by go_num, by rw [HB2E.out, HB.out], by rw [HB2E.out, HB.out, HOBE.out]; exact HK5.out⟩
                case measure => simp [intOf]; omega
              · have HB := Lib.hid (show b2 = (j : Int) by rw [HBX.out, if_pos rfl])
                have hko := HK5.out.setM hlt1 O
                have HKO := Lib.hid hko
                clear hko
                go_wp2_with fail
                go_roundw
                case rel => exact ⟨j + 1, by omega, by go_num, by rw [HB2E.out, HB.out], by rw [HB2E.out, HB.out, if_neg (by omega), Int.toNat_natCast, HOE.out]; exact HKO.out⟩
                case measure => simp [intOf]; omega
        · have hRB' : RB = false := by simpa using hRB
          subst hRB'
          have HB := Lib.hid (show b2 = b1 by rw [HST.out, HHAS.out, if_neg (by simp)])
          clear hRB
          go_wp2_with fail
          go_roundw
          case rel => exact ⟨j + 1, by omega, by go_num, by rw [HB2E.out, HB.out], by rw [HB2E.out, HB.out, HOBE.out]; exact HK3.out⟩
          case measure => simp [intOf]; omega
      · obtain rfl : j = l.length := by omega
        have r0 := hk.br.cell 0
        have r1 := hk.br.cell 1
        have g0 := hk.br.frozen 0
        have g1 := hk.br.frozen 1
        have b0 := hk.bm.cell 0
        have b1 := hk.bm.cell 1
        have hbl := hk.bl
        generalize bst l K l.length = bb at *
        by_cases hneg : bb < 0
        · have hneg' : decide (bb < 0) = true := by simpa using hneg
          have hE0 : E = 8 := by rw [HE.out, if_neg (by rw [HKE.out]; simp), if_pos hneg]
          have hF0 : F = (0, 0) := by rw [HF.out, if_neg (by omega)]
          have hI0 : I = 0 := by rw [HI.out, if_neg (by omega)]
          have H3 := Lib.hid (And.intro hE0 (And.intro hF0 hI0))
          clear hneg hE0 hF0 hI0 hk b0 b1
          go_wp2_with fail
          refine bodyPost_ret (v := .tuple #[.agg #[.int .i64 0, .int .i64 0], .int .i64 0, .int .i64 8]) (by simp [results, Try.results31, go_sem, r0, r1]) rfl ⟨by rw [H3.out.1, H3.out.2.1, H3.out.2.2], ?_⟩
          exact hbl.trans (by (repeat (refine Below.setCell ?_ (by exact Nat.le_refl _) _)); exact Below.refl _ _)
        · have hneg' : decide (bb < 0) = false := by simpa using hneg
          have hE0 : E = 0 := by rw [HE.out, if_neg (by rw [HKE.out]; simp), if_neg hneg]
          have hF0 : F = offV l K bb.toNat := by rw [HF.out, if_pos hE0]
          have hI0 : I = bb := by rw [HI.out, if_pos hE0]
          have H3 := Lib.hid (And.intro hE0 (And.intro hF0 hI0))
          rw [if_neg hneg] at b0 b1
          generalize offV l K bb.toNat = OF at *
          clear hneg hE0 hF0 hI0 hk
          go_wp2_with fail
          refine bodyPost_ret (v := .tuple #[.agg #[.int .i64 OF.1, .int .i64 OF.2], .int .i64 bb, .int .i64 0]) (by simp [results, Try.results31, go_sem, r0, r1]) rfl ⟨by rw [H3.out.1, H3.out.2.1, H3.out.2.2], ?_⟩
          exact hbl.trans (by (repeat (refine Below.setCell ?_ (by exact Nat.le_refl _) _)); exact Below.refl _ _)
  · have hKE' : (keptErr l ks != 0) = true := by simpa using hKE
    have hE0 : E = keptErr l ks := by rw [HE.out, if_pos hKE]
    have hF0 : F = (0, 0) := by rw [HF.out, if_neg (by rw [hE0]; exact hKE)]
    have hI0 : I = 0 := by rw [HI.out, if_neg (by rw [hE0]; exact hKE)]
    have H3 := Lib.hid (And.intro hE0 (And.intro hF0 hI0))
    have r0 := hB1.cell 0
    have r1 := hB1.cell 1
    have g0 := hB1.frozen 0
    have g1 := hB1.frozen 1
    clear hKE hE0 hF0 hI0 hB1
    go_wp2_with fail
    refine bodyPost_ret (v := .tuple #[.agg #[.int .i64 0, .int .i64 0], .int .i64 0, .int .i64 (keptErr l ks)]) (by simp [results, Try.results31, go_sem, r0, r1]) rfl ⟨by rw [H3.out.1, H3.out.2.1, H3.out.2.2], ?_⟩
    exact hb01.trans (by (repeat (refine Below.setCell ?_ (by exact Nat.le_refl _) _)); exact Below.refl _ _)
end Go.Proofs.Ytmcojidaimeijaa

/- Mathematics: a reconstruction at the moment of a kept sample is its value; when all is kept there is no error. -/

namespace Go.Proofs.Ytmcojidaimeijaa
open Go.RowKit
set_option linter.unusedVariables false
set_option linter.unusedSimpArgs false

theorem posF_at {K : List Smp} (h : Rise none K) (i : Nat) (hi : i < K.length) : posF K (atS K i).t = i := by
  have h1 := (posF_iff K (atS K i).t none h i hi).1 (Int.le_refl _)
  rcases Nat.lt_or_ge (posF K (atS K i).t) i with hlt | hge
  · have h2 := (posF_iff K (atS K i).t none h _ (show posF K (atS K i).t < K.length by omega)).2 (Nat.le_refl _)
    have h3 := rise_ltA h _ i hlt hi
    omega
  · omega
theorem recon_at {K : List Smp} (h : Rise none K) (i : Nat) (hi : i < K.length) : reconOf K (atS K i).t = if (atS K i).q = 2 then none else some ((atS K i).v, 1) := by
  unfold reconOf
  rw [posF_at h i hi]
  by_cases hq : (atS K i).q = 2
  · rw [if_pos (Or.inr hq), if_pos hq]
  · rw [if_neg (by rintro (h1 | h1); · omega
                   · exact hq h1), if_pos rfl, if_neg hq]
theorem kept_rc {K : List Smp} (hS : serErr K = 0) (i : Nat) (hi : i < K.length) :
    rcE K (atS K i).t = 0 ∧ rcB K (atS K i).t = decide ((atS K i).q ≠ 2) ∧ rcV K (atS K i).t = if (atS K i).q = 2 then (0, 0) else ((atS K i).v, 1) := by
  have hr := recon_at (serErr_rise hS) i hi
  have hvt := (serErr_vt hS i).2
  have hE : rcE K (atS K i).t = 0 := by unfold rcE; rw [if_neg (by simp [hS]), inB_true.2 ⟨by omega, by omega⟩]; rfl
  refine ⟨hE, ?_, ?_⟩
  · unfold rcB reconB; rw [if_pos hE, hr]
    by_cases hq : (atS K i).q = 2
    · rw [if_pos hq]; simp [hq]
    · rw [if_neg hq]; simp [hq]
  · unfold rcV reconV; rw [if_pos hE, hr]
    by_cases hq : (atS K i).q = 2
    · rw [if_pos hq, if_pos hq]; rfl
    · rw [if_neg hq, if_neg hq]; rfl
/-- The first n indices. -/
def upI : Nat → List Int
  | 0 => []
  | j + 1 => upI j ++ [(j : Int)]
theorem upI_long (n : Nat) : (upI n).length = n := by
  induction n with
  | zero => rfl
  | succ n ih => simp [upI, ih]
theorem upI_mem (n : Nat) : ∀ k ∈ upI n, 0 ≤ k ∧ k < (n : Int) := by
  induction n with
  | zero => intro k hk; cases hk
  | succ n ih =>
    intro k hk
    rcases List.mem_append.1 hk with h | h
    · have := ih k h; omega
    · simp only [List.mem_singleton] at h; omega
theorem upI_rise (n : Nat) : (upI n).Pairwise (· < ·) := by
  induction n with
  | zero => exact List.Pairwise.nil
  | succ n ih => exact List.pairwise_append.2 ⟨ih, by simp, fun x hx y hy => by simp only [List.mem_singleton] at hy; subst hy; exact (upI_mem n x hx).2⟩
theorem upI_cho (l : List Smp) (n : Nat) (hn : n ≤ l.length) : choOf l (upI n) = l.take n := by
  induction n with
  | zero => rfl
  | succ n ih =>
    have h := ih (by omega)
    rw [List.take_add_one, ← h, List.getElem?_eq_getElem (by omega), atS_eq l n (by omega)]
    simp [choOf, upI]
theorem upI_kept {l : List Smp} (hS : serErr l = 0) : keptErr l (upI l.length) = 0 := by
  unfold keptErr idxErr
  rw [if_neg (by simp [hS]), if_neg (by rw [upI_long]; omega)]
  exact idxFrom_zero _ _ none (upI_rise _) (upI_mem _) (fun q hq => by cases hq)
theorem all_kept {l : List Smp} (hS : serErr l = 0) (hE : errE l (upI l.length) = 0) : (errF l (upI l.length)).1 = 0 := by
  have hk := upI_kept hS
  have hc : choOf l (upI l.length) = l := by rw [upI_cho l _ (Nat.le_refl _), List.take_length]
  unfold errF
  rw [if_pos hE, hc]
  unfold errE at hE
  rw [if_neg (by simp [hk]), hc] at hE
  have hb : 0 ≤ bst l l l.length := by
    by_cases h : bst l l l.length < 0
    · rw [if_pos h] at hE; omega
    · omega
  have hh := bst_has l l l.length hb
  have hr := (bst_range l l l.length).2
  generalize hi : (bst l l l.length).toNat = i at *
  have hrec := recon_at (serErr_rise hS) i (by omega)
  unfold hasI at hh
  simp only [Bool.and_eq_true, decide_eq_true_eq] at hh
  rw [if_neg hh.2] at hrec
  unfold offV diffF reconV
  rw [hrec]
  simp [dist]
end Go.Proofs.Ytmcojidaimeijaa
