/- The contracts of Gaps (package sample) and of its closure. -/
import Derived.Test.YtjkncmhmmafmjaaGapr
import Derived.Test.YtjkncmhmmafmjaaAcc
namespace Go.Proofs.Ytjkncmhmmafmjaa
open Go.RowKit
set_option linter.unusedVariables false

/-- Block m holds the slice of the gaps so far, block m + 1 the moment from which on one is free. -/
structure Gs (w : World) (m : Nat) (acc : List (Int × Int)) (free : Int) : Prop where
  ex : ∃ vm, Blk w m 50 #[vm] ∧ w.ownsRow (m + 2) 32 2 vm acc.length (pairCells acc)
  fr : Blk w (m + 1) 3 #[.int .i64 free]
theorem Gs.lt {w : World} {m : Nat} {acc : List (Int × Int)} {free : Int} (h : Gs w m acc free) : m + 1 < w.heap.size := h.fr.lt
theorem Gs.below {w w' : World} {m : Nat} {acc : List (Int × Int)} {free : Int} (h : Gs w m acc free) (hb : Below w.heap.size w w') : Gs w' m acc free := by
  obtain ⟨⟨vm, h1, h2⟩, h3⟩ := h
  exact ⟨⟨vm, h1.below hb h1.lt, own_below h2 hb⟩, h3.below hb h3.lt⟩
theorem Gs.setFree {w : World} {m : Nat} {acc : List (Int × Int)} {free : Int} (h : Gs w m acc free) (u : Int) : Gs (w.setCell ⟨m + 1, 0, none⟩ (.int .i64 u)) m acc u := by
  obtain ⟨⟨vm, h1, h2⟩, h3⟩ := h
  exact ⟨⟨vm, h1.setOther (by simp) _, own_setOther h2 (h3.no (by decide)) _⟩, h3.setOne _⟩

theorem Blk.keep_grown {w w' : World} {b : Nat} {t e' : TypeId} {cs : Array Value} {base size' n' : Nat} {u : Value} {ys : List Value} (h : Blk w b t cs) (hown : w.ownsRow base e' size' u n' ys) (hgrow : w.grownBy w' u.ownBlock) (hne : t ≠ e') : Blk w' b t cs := by
  refine (hgrow.block b h.lt ?_).trans h
  intro hb
  obtain ⟨_, ⟨rfl, _⟩ | ⟨g, cap, cur', rfl, _, hh', _⟩⟩ := hown
  · cases hb
  · simp [Value.ownBlock] at hb
    subst hb
    exact h.no hne cur' (0, 0) hh'
theorem Blk.ne {w : World} {b m : Nat} {t e : TypeId} {cs cm : Array Value} (h : Blk w b t cs) (hm : Blk w m e cm) (hne : t ≠ e) : b ≠ m := by
  rintro rfl
  exact h.no hne cm (0, 0) hm

set_option maxRecDepth 100000 in
set_option maxHeartbeats 1000000 in
theorem gapsAdd_any (to free d : Int) (m q : Nat) (acc : List (Int × Int)) (w : World) (hG : Gs w m acc free) (hq : q < m) (hD : Blk w q 3 #[.int .i64 d]) (hlen : acc.length ≤ 1000000)
    (hto : 0 ≤ to ∧ to ≤ 345686400000) (hfree : 0 ≤ free ∧ free ≤ 345686400001) :
    Calls Try.prog 65 #[.int .i64 to, .pointer (some ⟨m + 1, 0, none⟩), .pointer (some ⟨q, 0, none⟩), .pointer (some ⟨m, 0, none⟩)] w fun e w' => e = .returned (.tuple #[]) ∧ Gs w' m (acc ++ if d < to - free then [(free, to)] else []) free ∧ Below m w w' ∧ ∀ b cs, Blk w b 27 cs → Blk w' b 27 cs := by
  have HG := Lib.hid hG
  obtain ⟨⟨vm, hb, hown⟩, hfr⟩ := hG
  have hlt := hfr.lt
  have hltm : m < w.heap.size := by omega
  have c0 : w.cell? ⟨m, 0, none⟩ = some vm := hb.cell 0
  have f0 : w.frozen? ⟨m, 0, none⟩ = false := hb.frozen 0
  have c1 : w.cell? ⟨m + 1, 0, none⟩ = some (.int .i64 free) := hfr.cell 0
  have c2 : w.cell? ⟨q, 0, none⟩ = some (.int .i64 d) := hD.cell 0
  have HB := Lib.hid hb
  have HF := Lib.hid hfr
  clear hb hfr hD
  by_cases hge : d < to - free
  · rw [if_pos hge]
    go_enter Try.func65, Try.ntmps65
    go_wp2_with (at_builtin; refine wpList_append_win rfl (.tmp 10) (.tmp 14) rfl (m + 2) vm acc.length acc rfl (by exact hown.alloc _) w.heap.size rfl (free, to) (by exact Blk.new _ _ _) (by omega) (by simp; omega) ?_; intro v1 w1 hown1 hgrow1; obtain ⟨g1, cap1, rfl, hg1, hc1, hc2⟩ := own_form hown1 (by omega); have hb2 : Below (m + 2) w w1 := ((Below.refl _ w).alloc (by omega) _).trans (below_grown (hown.alloc _) (by simp; omega) hgrow1); have d0 : w1.cell? ⟨m, 0, none⟩ = some vm := (HB.out.below hb2 (by omega)).cell 0; have g0 : w1.frozen? ⟨m, 0, none⟩ = false := (HB.out.below hb2 (by omega)).frozen 0; have HK := Lib.hid (show ∀ b cs, Blk w b 27 cs → Blk w1 b 27 cs from fun b cs h => Blk.keep_grown (h.alloc _) (hown.alloc _) hgrow1 (by decide)); clear hgrow1 c0 f0 c1 c2)
    have hbm1 := HB.out.below hb2 (by omega)
    have hbf1 := HF.out.below hb2 (by omega)
    go_end0
    refine ⟨rfl, ⟨⟨_, hbm1.setOne _, ?_⟩, hbf1.setOther (by simp) _⟩, Below.setCell (B := m) (hb2.mono (by omega)) (Nat.le_refl _) _, fun b cs h => (HK.out b cs h).setOther (Blk.ne (HK.out b cs h) hbm1 (by decide)) _⟩
    rw [List.length_append]
    exact own_setOther hown1 (hbm1.no (by decide)) _
  · rw [if_neg hge, List.append_nil]
    go_enter Try.func65, Try.ntmps65
    go_wp2_with fail
    go_end0
    exact ⟨rfl, HG.out, Below.refl _ _, fun _ _ h => h⟩

theorem tsl_step (f t : Int) (l : List Smp) (j : Nat) (h : j < l.length) : tsL (slicF f t (l.drop j)) = if (atS l j).q ≠ 2 ∧ outB f t (atS l j) = false then (atS l j).t :: tsL (slicF f t (l.drop (j + 1))) else tsL (slicF f t (l.drop (j + 1))) := by
  rw [List.drop_eq_getElem_cons h, atS_eq l j h]
  unfold slicF tsL
  by_cases ho : outB f t (atS l j) = true
  · rw [List.filter_cons_of_neg (by simp [ho]), if_neg (by simp [ho])]
  · have ho' : outB f t (atS l j) = false := by simpa using ho
    rw [List.filter_cons_of_pos (by simp [ho'])]
    by_cases hq : (atS l j).q = 2
    · rw [List.filter_cons_of_neg (by simp [hq]), if_neg (by simp [hq])]
    · rw [List.filter_cons_of_pos (by simp [hq]), if_pos ⟨hq, ho'⟩, List.map_cons]

def gapE (l : List Smp) (f t d : Int) : Int := orE (orE (serErr l) (winErr f t)) (if inB d 1 345686400000 = true then 0 else 1)
def gapR (l : List Smp) (f t d : Int) : List (Int × Int) := if gapE l f t d = 0 then gapF f t d l else []

set_option maxRecDepth 100000 in
set_option maxHeartbeats 4000000 in
theorem gaps_any (v : Value) (l : List Smp) (f t d : Int) (w : World) (hR : RdS w 27 v l) :
    Calls Try.prog 23 #[v, .agg #[.int .i64 f, .int .i64 t], .int .i64 d] w fun e w' => ∃ v', e = .returned (.tuple #[v', .int .i64 (gapE l f t d)]) ∧ RdW w' v' (gapR l f t d) ∧ Below w.heap.size w w' := by
  have hmf : ∀ (fn : Fn) (first cap : Array Value) (w : World), (Instr.makeFunc fn first cap).run Try.prog w = .ok (.func fn first cap) w := fun _ _ _ _ => rfl
  have hEd : gapE l f t d = orE (orE (serErr l) (winErr f t)) (if inB d 1 345686400000 = true then 0 else 1) := rfl
  have hRd : gapR l f t d = if gapE l f t d = 0 then gapF f t d l else [] := rfl
  have HED := Lib.hid hEd
  have HRD := Lib.hid hRd
  obtain ⟨pa, ca, rfl⟩ : ∃ pa ca, v = .slice pa l.length ca := by obtain ⟨_, pa, ca, rfl, _⟩ := hR; exact ⟨pa, ca, rfl⟩
  have HR := Lib.hid hR
  clear hEd hRd hR
  have hB := Blk.new w 32 #[.int .i64 f, .int .i64 t]
  have HB := Lib.hid hB
  clear hB
  by_cases h0 : orE (serErr l) (winErr f t) = 0
  · have h0' : (orE (serErr l) (winErr f t) != 0) = false := by simpa using h0
    have hS : serErr l = 0 := by unfold orE at h0; split at h0 <;> omega
    have hW : winB f t = true := by
      unfold orE at h0; rw [if_neg (by rw [hS]; simp)] at h0
      unfold winErr at h0
      by_cases hw : winB f t = true
      · exact hw
      · rw [if_neg hw] at h0; omega
    obtain ⟨hw1, hw2, hw3⟩ := winB_true.1 hW
    have HS := Lib.hid hS
    have H0 := Lib.hid h0
    have hlong := (serErr_good hS).1
    have hat := serErr_at hS
    have HAT := Lib.hid hat
    clear h0 hS hW hat
    by_cases hd : inB d 1 345686400000 = true
    · have hE0 : gapE l f t d = 0 := by rw [HED.out, orE, if_neg (by rw [H0.out]; simp), if_pos hd]
      have HE0 := Lib.hid hE0
      clear hE0
      have hd2 := inB_true.1 hd
      go_enter Try.func23, Try.ntmps23
      go_wp2_with fail
      refine (checkWithin_any _ l f t _ (Rd.alloc (Rd.alloc HR.out _) _)).mono ?_
      rintro e w1 ⟨rfl, hb1⟩
      have hbw : Blk w1 w.heap.size 32 #[.int .i64 f, .int .i64 t] := (HB.out.alloc _).below hb1 (by simp; omega)
      have hbd : Blk w1 (w.heap.size + 1) 3 #[.int .i64 d] := (Blk.new1 w _ _ _).below hb1 (by simp)
      have c5 : w1.cell? ⟨w.heap.size + 1, 0, none⟩ = some (.int .i64 d) := hbd.cell 0
      have c40 : w1.cell? ⟨w.heap.size, 0, none⟩ = some (.int .i64 f) := hbw.cell 0
      have c41 : w1.cell? ⟨w.heap.size, 1, none⟩ = some (.int .i64 t) := hbw.cell 1
      have hR1 : RdS w1 27 (.slice pa l.length ca) l := Rd.below (Rd.alloc (Rd.alloc HR.out _) _) hb1
      have hb01 : Below w.heap.size w w1 := (((Below.refl _ w).alloc (Nat.le_refl _) _).alloc (by simp) _).trans (hb1.mono (by simp; omega))
      have hw1 : w.heap.size + 2 ≤ w1.heap.size := by have := hb1.size; simpa using this
      have hwlt0 : w.heap.size < w1.heap.size := by omega
      have hwlt1 : w.heap.size + 1 < w1.heap.size := by omega
      have HBW := Lib.hid hbw
      have HBD := Lib.hid hbd
      have HR1 := Lib.hid hR1
      clear hbw hbd hb1 hR1
      go_wp2_with (go_at_call 64; refine (within_any _ _ _ _).mono ?_; rintro e w' ⟨rfl, rfl⟩)
      go_loopw [28] (fun si wr => ∃ (j : Nat) (acc : List (Int × Int)) (free : Int), j ≤ l.length ∧ si = .int .i64 (j : Int) ∧ Gs wr w1.heap.size acc free ∧ acc ++ gapL d free (tsL (slicF f t (l.drop j)) ++ [t]) = gapF f t d l ∧ acc.length ≤ j ∧ (0 ≤ free ∧ free ≤ 345686400001) ∧ Below w1.heap.size w1 wr) (fun si _ => l.length - (intOf si).toNat)
      case atStart =>
        exact ⟨0, [], f, by omega, rfl, ⟨⟨_, (Blk.new w1 50 #[.slice none 0 0]).alloc _, World.ownsRow_nil _ _ _ _⟩, Blk.new1 _ _ _ _⟩, rfl, by simp, by omega, ((Below.refl _ w1).alloc (Nat.le_refl _) _).alloc (by simp) _⟩
      case round =>
        obtain ⟨j, acc, free, hj, rfl, hG, hacc, hal, hfree, hbr⟩ := hrel
        have HACC := Lib.hid hacc
        clear hacc c5 c40 c41
        have hwr := hbr.size
        have hbw : Blk wr w.heap.size 32 #[.int .i64 f, .int .i64 t] := HBW.out.below hbr hwlt0
        have c40 : wr.cell? ⟨w.heap.size, 0, none⟩ = some (.int .i64 f) := hbw.cell 0
        have c41 : wr.cell? ⟨w.heap.size, 1, none⟩ = some (.int .i64 t) := hbw.cell 1
        have hwlt2 : w.heap.size < wr.heap.size := by omega
        clear hbw
        by_cases hlt : j < l.length
        · have hRr : RdS wr 27 (.slice pa l.length ca) l := Rd.below HR1.out hbr
          have hstep := tsl_step f t l j hlt
          have hE := HAT.out j
          obtain ⟨b, off, c, hv, hc1, hc2, hblt, hcell⟩ := RdS.at_ hRr (by omega)
          simp only [Value.slice.injEq, true_and] at hv
          obtain ⟨rfl, rfl⟩ := hv
          obtain ⟨c0, c1, c2⟩ := hcell j hlt
          generalize atS l j = x at *
          have HSTEP := Lib.hid hstep
          have HG := Lib.hid hG
          clear hstep hcell hRr hG
          unfold maxLen at hc2
          by_cases hq : x.q = 2
          · have hq' : (x.q != 2) = false := by simpa using hq
            have HQ := Lib.hid hq
            clear hq
            go_wp2_with fail
            go_roundw
            case rel => exact ⟨j + 1, acc, free, by omega, by go_num, HG.out.below ((Below.refl _ _).alloc (Nat.le_refl _) _), by rw [← HACC.out, HSTEP.out, if_neg (by rw [HQ.out]; simp)], by omega, hfree, hbr.alloc hwr _⟩
            case measure => simp [intOf]; omega
          · have hq' : (x.q != 2) = true := by simpa using hq
            have HQ := Lib.hid hq
            clear hq
            have hout : outB f t x = !decide (f ≤ x.t ∧ x.t < t) := by unfold outB; by_cases h : f ≤ x.t ∧ x.t < t <;> simp [h] <;> omega
            have HOUT := Lib.hid hout
            clear hout
            go_wp2_with fail
            refine (inside_any x.t f t _).mono ?_
            rintro e w2 ⟨rfl, hb2⟩
            generalize decide (f ≤ x.t ∧ x.t < t) = ins at *
            have hb02 : Below w1.heap.size w1 w2 := (hbr.alloc hwr _).trans (hb2.mono (by simp; omega))
            have hG2 : Gs w2 w1.heap.size acc free := (HG.out.below ((Below.refl _ _).alloc (Nat.le_refl _) _)).below hb2
            have HG2 := Lib.hid hG2
            clear hG2
            cases ins
            · go_wp2_with fail
              go_roundw
              case rel => exact ⟨j + 1, acc, free, by omega, by go_num, HG2.out, by rw [← HACC.out, HSTEP.out, if_neg (by rw [HOUT.out]; simp)], by omega, hfree, hb02⟩
              case measure => simp [intOf]; omega
            · have hbx : Blk w2 wr.heap.size 27 #[.int .i64 x.t, .int .i64 x.v, .int .i64 x.q] := (Blk.new wr _ _).below hb2 (by simp)
              have x0 : w2.cell? ⟨wr.heap.size, 0, none⟩ = some (.int .i64 x.t) := hbx.cell 0
              have HBX := Lib.hid hbx
              clear hbx hb2
              go_wp2_with fail
              refine (gapsAdd_any x.t free d w1.heap.size (w.heap.size + 1) acc w2 HG2.out hwlt1 (HBD.out.below hb02 hwlt1) (by omega) (by omega) hfree).mono ?_
              rintro e w3 ⟨rfl, hG3, hb3, hk3⟩
              have hb03 := hb02.trans hb3
              have y0 : w3.cell? ⟨wr.heap.size, 0, none⟩ = some (.int .i64 x.t) := (hk3 _ _ HBX.out).cell 0
              have z0 : w3.cell? ⟨w1.heap.size + 1, 0, none⟩ = some (.int .i64 free) := hG3.fr.cell 0
              have z1 : w3.frozen? ⟨w1.heap.size + 1, 0, none⟩ = false := hG3.fr.frozen 0
              have HG3 := Lib.hid hG3
              clear x0 hk3 hG3 hb3
              go_wp2_with fail
              go_roundw
              case rel =>
                have hs := HSTEP.out
                rw [if_pos ⟨HQ.out, by rw [HOUT.out]; rfl⟩] at hs
                refine ⟨j + 1, _, x.t + 1, by omega, by go_num, HG3.out.setFree (x.t + 1), ?_, ?_, by omega, Below.setCell (B := w1.heap.size) hb03 (Nat.le_add_right _ 1) _⟩
                · rw [← HACC.out, hs, List.cons_append, gapL, List.append_assoc]
                · by_cases h : d < x.t - free <;> simp [h] <;> omega
              case measure => simp [intOf]; omega
        · obtain rfl : j = l.length := by omega
          go_wp2_with fail
          refine (gapsAdd_any t free d w1.heap.size (w.heap.size + 1) acc wr hG hwlt1 (HBD.out.below hbr hwlt1) (by omega) (by omega) hfree).mono ?_
          rintro e w3 ⟨rfl, hG3, hb3, hk3⟩
          have hfin : acc ++ (if d < t - free then [(free, t)] else []) = gapF f t d l := by
            rw [← HACC.out, List.drop_length]; simp [slicF, tsL, gapL]
          rw [hfin] at hG3
          obtain ⟨⟨vm, hvm, hown⟩, _⟩ := hG3
          have z0 : w3.cell? ⟨w1.heap.size, 0, none⟩ = some vm := hvm.cell 0
          have hrd : RdW w3 vm (gapF f t d l) := Rd.of_own hown
          have HRD3 := Lib.hid hrd
          clear hfin hown hvm hrd hk3
          go_wp2_with fail
          go_ret2
          refine ⟨vm, by rw [HE0.out]; rfl, ?_, hb01.trans ((hbr.trans hb3).mono (by omega))⟩
          rw [HRD.out, if_pos HE0.out]; exact HRD3.out
    · have hE1 : gapE l f t d = 1 := by rw [HED.out, orE, if_neg (by rw [H0.out]; simp), if_neg hd]
      have HE1 := Lib.hid hE1
      have hd' : inB d 1 345686400000 = false := by simpa using hd
      clear hE1 hd
      go_enter Try.func23, Try.ntmps23
      go_wp2_with fail
      refine (checkWithin_any _ l f t _ (Rd.alloc (Rd.alloc HR.out _) _)).mono ?_
      rintro e w1 ⟨rfl, hb1⟩
      have hbd : Blk w1 (w.heap.size + 1) 3 #[.int .i64 d] := (Blk.new1 w _ _ _).below hb1 (by simp)
      have c5 : w1.cell? ⟨w.heap.size + 1, 0, none⟩ = some (.int .i64 d) := hbd.cell 0
      have hb01 : Below w.heap.size w w1 := (((Below.refl _ w).alloc (Nat.le_refl _) _).alloc (by simp) _).trans (hb1.mono (by simp; omega))
      clear hbd hb1
      go_wp2_with (go_at_call 64; refine (within_any _ _ _ _).mono ?_; rintro e w' ⟨rfl, rfl⟩)
      go_ret2
      refine ⟨.slice none 0 0, by rw [HE1.out]; rfl, ?_, hb01⟩
      rw [HRD.out, HE1.out, if_neg (by omega)]; exact Rd.nil _ _ _
  · have h0' : (orE (serErr l) (winErr f t) != 0) = true := by simpa using h0
    have hE1 : gapE l f t d = orE (serErr l) (winErr f t) := by rw [HED.out]; unfold orE at h0 ⊢; rw [if_pos h0]
    have HE1 := Lib.hid hE1
    have H0 := Lib.hid h0
    clear hE1 h0
    go_enter Try.func23, Try.ntmps23
    go_wp2_with fail
    refine (checkWithin_any _ l f t _ (Rd.alloc (Rd.alloc HR.out _) _)).mono ?_
    rintro e w1 ⟨rfl, hb1⟩
    have hb01 : Below w.heap.size w w1 := (((Below.refl _ w).alloc (Nat.le_refl _) _).alloc (by simp) _).trans (hb1.mono (by simp; omega))
    clear hb1
    go_wp2_with fail
    go_ret2
    refine ⟨.slice none 0 0, by rw [HE1.out]; rfl, ?_, hb01⟩
    rw [HRD.out, HE1.out, if_neg H0.out]; exact Rd.nil _ _ _
end Go.Proofs.Ytjkncmhmmafmjaa
