import Derived.Test.YtmcojidaimeijaaBt03
import Derived.Test.YtmcojidaimeijaaBt09
import Derived.Test.YtmcojidaimeijaaTwoa
import Derived.Test.YtmcojidaimeijaaBt01
import Derived.Test.YtmcojidaimeijaaRq06
/- StreamsAreBatches: the walk of the law, over a contract of ready. -/

namespace Go.Proofs.Ytmcojidaimeijaa
open Go.RowKit
set_option linter.unusedVariables false
set_option linter.unusedSimpArgs false

/-- What lies in the loop: the compressor, all that it gave. -/
structure SbK (W0 : World) (c : Nat) (d m : Int) (lt : List Smp) (va : Value) (la : List Smp) (W : World) : Prop where
  be : Below W0.heap.size W0 W
  cs : CompSt W0.heap.size W c d m lt
  oa : W.ownsRow W0.heap.size 57 3 va la.length (cellsOf la)
section
variable {W0 W W' : World} {c : Nat} {d m : Int} {lt lt' la la' : List Smp} {va va' : Value}
theorem SbK.step (h : SbK W0 c d m lt va la W) (hb : Below W.heap.size W W') : SbK W0 c d m lt va la W' :=
  ⟨h.be.trans (hb.mono h.be.size), h.cs.below hb, own_keep h.oa fun b _ _ hh => hb.block b (lt_of_heap hh)⟩
theorem SbK.alloc (h : SbK W0 c d m lt va la W) (o : Obj) : SbK W0 c d m lt va la (W.alloc o) := h.step ((Below.refl _ W).alloc (Nat.le_refl _) o)
theorem SbK.cg (h : SbK W0 c d m lt va la W) (hc : Cg W0.heap.size W W') (hs : CompSt W0.heap.size W' c d m lt') : SbK W0 c d m lt' va la W' :=
  ⟨h.be.trans hc.bl, hs, hc.own h.oa (by decide) (by decide)⟩
theorem SbK.grown (h : SbK W0 c d m lt va la W) (hg : W.grownBy W' va.ownBlock) (ho : W'.ownsRow W0.heap.size 57 3 va' la'.length (cellsOf la')) : SbK W0 c d m lt va' la' W' :=
  ⟨h.be.trans (below_grown h.oa h.be.size hg), h.cs.grown h.oa (by decide) (by decide) hg, ho⟩
end
theorem addErr_take {l : List Smp} (hS : serErr l = 0) (i : Nat) (hi : i < l.length) : addErr (l.take i) (atS l i) = 0 := by
  have hg := (serErr_good hS).2 (atS l i) (by rw [← atS_eq l i hi]; exact List.getElem_mem _)
  unfold addErr
  rw [if_neg (by simp [hg]), if_neg]
  rintro ⟨h1, h2⟩
  have hlen : (l.take i).length = i := by simp; omega
  rw [hlen] at h1 h2
  have h3 : atS (l.take i) (i - 1) = atS l (i - 1) := atS_take l i (i - 1) (by omega)
  rw [h3] at h2
  have := rise_ltA (serErr_rise hS) (i - 1) i (by omega) hi
  omega
theorem archLen (d m : Int) (l : List Smp) : (arch d m l).length ≤ 2 * l.length := by
  unfold arch choI
  rw [List.length_map]
  rcases Nat.eq_zero_or_pos l.length with h | h
  · rw [h]; simp [compTo]
  · exact (compTo_inv d m l _ h).2.2.2
theorem flushLen (d m : Int) (l : List Smp) : (flushOut d m l).length ≤ 1 := by
  unfold flushOut; split <;> simp

set_option maxRecDepth 100000 in
set_option maxHeartbeats 4000000 in
theorem streamsAre_of (HRY : ∀ W, Calls Try.prog 17 #[] W fun e w' => e = .returned (.bool true) ∧ Below W.heap.size W w')
    (w : World) (L : List Int) (A : Option Addr) (cap : Nat) (hc : ∀ i, i < L.length → ∃ ad : Addr, A = some ad ∧ ad.block < w.heap.size ∧ w.cell? (ad.add i) = some (.int .i64 (L.getD i 0)))
    (hl : L.length ≤ 9223372036854775807) (hwf : ∀ i, -9223372036854775808 ≤ L.getD i 0 ∧ L.getD i 0 ≤ 9223372036854775807) :
    Calls Try.prog 5 #[.slice A L.length cap] w fun e w' => e = .returned (.bool true) ∧ Below w.heap.size w w' := by
  have hS0 : Strm (w.alloc (.cells #[.slice A L.length cap, .int .i64 0] 25)) w.heap.size L A cap 0 :=
    ⟨heap_alloc_new w _, fun i hi => by
      obtain ⟨ad, e, hb, hcell⟩ := hc i hi
      exact ⟨ad, e, hb, by rw [World.cell?_alloc_lt _ _ _ (by rw [addr_add_block]; exact hb)]; exact hcell⟩, hl, hwf⟩
  have HS0 := Lib.hid hS0
  have HR := Lib.hid HRY
  clear hS0 hc hwf HRY
  go_enter Try.func5, Try.ntmps5
  go_wp2_with fail
  refine (doorOf_went _ w.heap.size L A cap 0 HS0.out (by omega)).mono ?_
  rintro e w2 ⟨d, m, k2, rfl, hd1, hd2, hk2, hw2⟩
  go_wp2_with fail
  refine (rightCurve_went _ w.heap.size L A cap k2 16 hw2.1 (by omega) (by omega)).mono ?_
  rintro e w3 ⟨v, rfl, l, k3, hrd, hlen, hser, hk3, hw3⟩
  have hb3 := hw2.2.trans hw3.2
  have hlow : Below w.heap.size w w3 := ((Below.refl _ w).alloc (Nat.le_refl _) _).trans ⟨hb3.os, hb3.tape, hb3.output, hb3.size, fun i hi => hb3.block i (by simp; omega) (by omega)⟩
  obtain ⟨pv, cv, rfl⟩ := hrd.lenv
  have hbd := Blk.new w3 50 #[.int .i64 d, .int .i64 m]
  have hlow4 := hlow.alloc hlow.size (.cells #[.int .i64 d, .int .i64 m] 50)
  have hrd4 : RdS (w3.alloc (.cells #[.int .i64 d, .int .i64 m] 50)) 57 (.slice pv l.length cv) l := Rd.alloc hrd _
  have HSER := Lib.hid hser
  clear hw2 hw3 hb3 hrd hser hk2 hk3 hd1 hd2 hlow
  go_upto_region 3 with fail
  generalize w3.alloc (.cells #[.int .i64 d, .int .i64 m] 50) = w4 at *
  generalize w3.heap.size = n at *
  have e0 := hbd.cell 0
  have e1 := hbd.cell 1
  go_wp2_with fail
  refine (doorFault_any d m _).mono ?_
  rintro e w5 ⟨rfl, hb5⟩
  have hbd5 := hbd.below hb5 hbd.lt
  have hrd5 := Rd.below hrd4 hb5
  have hlow5 := hlow4.trans (hb5.mono hlow4.size)
  clear e0 e1 hbd hrd4 hlow4 hb5
  by_cases hE : doorErr d m = 0
  · have hE' : (doorErr d m != 0) = false := by simpa using hE
    obtain ⟨hdd, hdm⟩ := doorErr_ok hE
    have e0 := hbd5.cell 0
    have e1 := hbd5.cell 1
    have HE := Lib.hid hE
    clear hE
    go_wp2_with fail
    refine (new_any d m w5).mono ?_
    rintro e w6 ⟨hb6, ⟨hE2, _⟩ | ⟨_, c, rfl, hcs⟩⟩
    · exact absurd HE.out hE2
    have hk6 : SbK w5 c d m (l.take 0) (.slice none 0 0) (arch d m (l.take 0)) w6 := ⟨hb6, by simpa using hcs, by simpa [arch, compTo, choI] using World.ownsRow_nil w6 _ _ _⟩
    have HBD := Lib.hid hbd5
    have HRD := Lib.hid hrd5
    have HFIT := Lib.hid (serErr_fit HSER.out)
    have HLOW := Lib.hid hlow5
    clear hcs hb6 e0 e1 hbd5 hrd5 hlow5 hE'
    go_wp2_with fail
    go_loopw [8, 39] (fun sa si wr => ∃ (i : Nat) (va : Value), va = sa ∧ si = .int .i64 (i : Int) ∧ i ≤ l.length ∧ SbK w5 c d m (l.take i) va (arch d m (l.take i)) wr) (fun _ si _ => l.length - (intOf si).toNat)
    case atStart => exact ⟨0, _, rfl, rfl, by omega, hk6⟩
    case round =>
      clear hk6
      obtain ⟨i, va, rfl, rfl, hi, hk⟩ := hrel
      by_cases hlt : i < l.length
      · obtain ⟨b, off, cc, hv, hc1, hc2, hblt, hcell⟩ := RdS.at_ (Rd.below HRD.out hk.be) (by omega)
        cases hv
        unfold maxLen at hc2
        obtain ⟨c0, c1, c2⟩ := hcell i hlt
        have hE2 := addErr_take HSER.out i hlt
        have htk : l.take (i + 1) = l.take i ++ [atS l i] := by rw [List.take_succ_eq_append_getElem hlt, atS_eq l i hlt]
        have hfit := HFIT.out.take i
        have hla := archLen d m (l.take i)
        have hlt2 : (l.take i).length ≤ 16 := by rw [List.length_take]; omega
        have HTK := Lib.hid htk
        generalize atS l i = x at *
        generalize l.take i = lt at *
        have hkx := hk.alloc (.cells #[.int .i64 x.t, .int .i64 x.v, .int .i64 x.q] 57)
        have hbx := Blk.new wr 57 #[.int .i64 x.t, .int .i64 x.v, .int .i64 x.q]
        have HAO := Lib.hid (add_ok w5.heap.size c d m lt x _ hkx.cs hfit hdd hkx.be.size hE2)
        have HKX := Lib.hid hkx
        clear hcell hE2 htk hfit hk hkx
        go_upto_region 12 with fail
        generalize wr.alloc (.cells #[.int .i64 x.t, .int .i64 x.v, .int .i64 x.q] 57) = wx at *
        have z0 := hbx.cell 0
        have z1 := hbx.cell 1
        have z2 := hbx.cell 2
        clear c0 c1 c2
        go_wp2_with fail
        refine HAO.out.mono ?_
        rintro e w7 ⟨vo, out, rfl, hao, hol, hoo, hcs7, hcg7⟩
        have hk7 := HKX.out.cg hcg7 hcs7
        have hrx := Rd.of_own hoo
        obtain ⟨po, co, rfl⟩ : ∃ po co, vo = .slice po out.length co := RdS.lenv hrx
        have HK7 := Lib.hid hk7
        have HRX := Lib.hid hrx
        have HARC := Lib.hid hao
        clear hk7 hrx hoo hcs7 hcg7 hao z0 z1 z2 hbx
        go_wp2_with (at_builtin; refine wpList_append_smps2 rfl (.tmp 51) (.tmp 52) rfl w5.heap.size va (arch d m lt) rfl HK7.out.oa (.slice po out.length co) rfl out HRX.out (by omega) (by omega) HK7.out.be.size ?_; intro v1 w9 ho9 hgr9 hwh9; have HK9 := Lib.hid (HK7.out.grown hgr9 ho9); clear ho9 hgr9 hwh9)
        go_roundw
        case rel => exact ⟨i + 1, _, rfl, by go_num, by omega, by rw [HTK.out, HARC.out]; exact HK9.out⟩
        case measure => simp [intOf]; omega
      · obtain rfl : i = l.length := by omega
        rw [List.take_length] at hk
        have hla := archLen d m l
        have hfl := flushLen d m l
        have HFL := Lib.hid (flush_any w5.heap.size c d m l wr hk.cs hk.be.size)
        have HK := Lib.hid hk
        have HFE := Lib.hid (flush_end d m l)
        clear hk
        go_wp2_with fail
        refine HFL.out.mono ?_
        rintro e w7 ⟨vo, rfl, hoo, hcs7, hcg7⟩
        have hk7 := HK.out.cg hcg7 hcs7
        have hrx := Rd.of_own hoo
        obtain ⟨po, co, rfl⟩ : ∃ po co, vo = .slice po (flushOut d m l).length co := RdS.lenv hrx
        have HK7 := Lib.hid hk7
        have HRX := Lib.hid hrx
        clear hk7 hrx hoo hcs7 hcg7
        go_upto_region 18 with (at_builtin; refine wpList_append_smps2 rfl (.tmp 55) (.tmp 57) rfl w5.heap.size va (arch d m l) rfl HK7.out.oa (.slice po (flushOut d m l).length co) rfl (flushOut d m l) HRX.out (by omega) (by omega) HK7.out.be.size ?_; intro v1 w9 ho9 hgr9 hwh9; have HK9 := Lib.hid (HK7.out.grown hgr9 ho9); clear ho9 hgr9 hwh9)
        have hall : RdS w9 57 v1 (choI l (compressed d m l)) := by rw [HFE.out]; exact Rd.of_own HK9.out.oa
        obtain ⟨p1, c1, rfl⟩ := RdS.lenv hall
        have hbd9 := HBD.out.below HK9.out.be HBD.out.lt
        have e0 := hbd9.cell 0
        have e1 := hbd9.cell 1
        have hrd9 := Rd.below HRD.out HK9.out.be
        have hlow9 := HLOW.out.trans (HK9.out.be.mono HLOW.out.size)
        have HALL := Lib.hid hall
        clear hall hbd9
        go_wp2_with fail
        refine (compress_any d m (.slice pv l.length cv) l _ hrd9).mono ?_
        rintro e w10 ⟨vk, rfl, hrk, hb10⟩
        have hcE : cprE d m l = 0 := by unfold cprE erE; rw [if_neg (by simp [HE.out]), HSER.out]
        have hcR : cprR d m l = compressed d m l := by unfold cprR; rw [if_pos hcE]
        rw [hcR] at hrk
        rw [hcE]
        have hrd10 := Rd.below hrd9 hb10
        have hlow10 := hlow9.trans (hb10.mono hlow9.size)
        have HALL10 := Lib.hid (Rd.below HALL.out hb10)
        have hkk := cmp_kept (d := d) (m := m) HSER.out
        have hks : (compressed d m l).length ≤ 100000 := by
          have h := hkk
          unfold keptErr at h
          rw [if_neg (by simp [HSER.out])] at h
          have h4 := (idxErr_inside h).1
          have h5 := (serErr_good HSER.out).1
          omega
        clear e0 e1 hcE hcR hb10 hrd9 hlow9 HALL
        go_wp2_with fail
        refine (keep_any (.slice pv l.length cv) vk l (compressed d m l) _ hrd10 hrk hks).mono ?_
        rintro e w11 ⟨vw, rfl, hok, _, hb11⟩
        have hrw := hok hkk
        rw [hkk]
        obtain ⟨pw, cw, rfl⟩ := RdS.lenv hrw
        have hlow11 := hlow10.trans (hb11.mono hlow10.size)
        have HEQ := Lib.hid (equal_any _ _ (choI l (compressed d m l)) (choOf l (compressed d m l)) _ (Rd.below HALL10.out hb11) hrw)
        have hdd2 : decide (choI l (compressed d m l) = choOf l (compressed d m l)) = true := decide_eq_true rfl
        rw [hdd2] at HEQ
        clear hok hrw hb11 hlow10 HALL10 hkk hdd2 hrk hrd10
        go_wp2_with fail
        refine HEQ.out.mono ?_
        rintro e w12 ⟨rfl, m12, rfl⟩
        have hlow12 : Below w.heap.size w (w11.drewN m12) := hlow11.trans ⟨rfl, rfl, rfl, Nat.le_refl _, fun _ _ => rfl⟩
        generalize w11.drewN m12 = w13 at *
        go_wp2_with fail
        refine (HR.out _).mono ?_
        rintro e w14 ⟨rfl, hb14⟩
        go_wp2_with fail
        go_ret
        exact ⟨rfl, hlow12.trans (hb14.mono hlow12.size)⟩
  · have hE' : (doorErr d m != 0) = true := by simpa using hE
    clear hE
    go_wp2_with fail
    refine (HR.out _).mono ?_
    rintro e w6 ⟨rfl, hb6⟩
    go_wp2_with fail
    go_ret
    exact ⟨rfl, hlow5.trans (hb6.mono hlow5.size)⟩
end Go.Proofs.Ytmcojidaimeijaa

/- StreamsAreBatches returns true, for every stream: the law over the contract of ready(), which is proved. -/

namespace Go.Proofs.Ytmcojidaimeijaa
open Go.RowKit
theorem streamsAre_walk (w : World) (L : List Int) (A : Option Addr) (cap : Nat) (hc : ∀ i, i < L.length → ∃ ad : Addr, A = some ad ∧ ad.block < w.heap.size ∧ w.cell? (ad.add i) = some (.int .i64 (L.getD i 0)))
    (hl : L.length ≤ 9223372036854775807) (hwf : ∀ i, -9223372036854775808 ≤ L.getD i 0 ∧ L.getD i 0 ≤ 9223372036854775807) :
    Calls Try.prog 5 #[.slice A L.length cap] w fun e w' => e = .returned (.bool true) ∧ Below w.heap.size w w' :=
  streamsAre_of ready_any w L A cap hc hl hwf
end Go.Proofs.Ytmcojidaimeijaa
