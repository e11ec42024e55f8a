/- The contracts of ANumber and RawBytes (package logmake), and of archived (package loglaw2). -/
import Derived.Test.YtiaoclnhocadeaaRpt
import Derived.Test.YtiaoclnhocadeaaVar
import Derived.Deep.DeepCutAuto
namespace Go.Proofs.Ytiaoclnhocadeaa
open Go.RowKit
set_option linter.unusedVariables false
set_option linter.unusedSimpArgs false

theorem RdB.ofBlk {w : World} {b r c : Nat} {cs : List Int} (h : Blk w b 5 (cs.map (Value.int .u8)).toArray) (hr : r ≤ cs.length) (hc : r ≤ c) (hm : c ≤ maxLen) : RdB w (.slice (some ⟨b, 0, none⟩) r c) (cs.take r) := by
  have hl : (cs.take r).length = r := by simp; omega
  refine ⟨by simp, some ⟨b, 0, none⟩, c, by rw [hl], by omega, hm, fun _ => ⟨b, 0, _, (0, 0), rfl, h, fun j hj => ?_⟩⟩
  rw [hl] at hj
  simp [List.getElem?_take_of_lt (show j < r by omega)]

set_option maxHeartbeats 400000 in
theorem aNumber_went (w : World) (g : Nat) (L : List Int) (A : Option Addr) (cap k : Nat) (hS : Strm w g L A cap k) (hk : k ≤ 900000000) :
    Calls Try.prog 17 #[.pointer (some ⟨g, 0, none⟩)] w fun e w' => ∃ n : Int, e = .returned (.int .i64 n) ∧ Went w g L A cap (k + 1) w' := by
  go_enter Try.func17, Try.ntmps17
  go_wp2_with fail
  refine (pick_new _ _ g L A cap k [0, 1, -1, 63, 64, -64, -65, 8191, 8192, -8193, 300, 1000000000000, -1000000000000, 1000000000001, -1000000000001, 4611686018427387904, -9223372036854775808] hS rfl (by omega) (by simp)).mono ?_
  rintro e w1 ⟨rfl, hw1⟩
  go_wp2_with fail
  go_ret
  exact ⟨_, rfl, hw1⟩

set_option maxRecDepth 100000 in
set_option maxHeartbeats 400000 in
theorem archived_any (w : World) : Calls Try.prog 27 #[] w fun e w' => e = .returned (.bool true) ∧ Below w.heap.size w w' := by
  have hv : varR 64 = ([128, 1], 0) := by
    unfold varR
    rw [if_pos (by decide)]
    have : zig 64 = 128 := by decide
    rw [this, vb_big (by omega), vb_small (by omega)]
    rfl
  have hm := fun w => varint_any 64 w
  rw [hv] at hm
  have HM := Lib.hid hm
  clear hv hm
  go_enter Try.func27, Try.ntmps27
  go_wp2_with fail
  refine (HM.out _).mono ?_
  rintro e w1 ⟨v1, rfl, ho1, hb1⟩
  have hr1 : RdB (w1.alloc (.cells #[.int .u8 128, .int .u8 1] 5)) v1 [128, 1] := (ho1.alloc _).rd
  have hr2 : RdB (w1.alloc (.cells #[.int .u8 128, .int .u8 1] 5)) (.slice (some ⟨w1.heap.size, 0, none⟩) 2 2) [128, 1] := RdB.ofBlk (cs := [128, 1]) (Blk.new w1 _ _) (by simp) (by omega) (by simp [maxLen])
  have he := fun w h1 h2 => bytesEqual_any v1 (.slice (some ⟨w1.heap.size, 0, none⟩) 2 2) [128, 1] [128, 1] w h1 h2 (fun x hx => by simp at hx; omega) (fun x hx => by simp at hx; omega)
  have HE := Lib.hid (he _ hr1 hr2)
  have HB := Lib.hid (hb1.alloc (by simpa using hb1.size) (.cells #[.int .u8 128, .int .u8 1] 5))
  clear ho1 hb1 hr1 hr2 he
  go_wp2_with fail
  refine HE.out.mono ?_
  rintro e w2 ⟨rfl, rfl⟩
  go_wp2_with fail
  go_ret
  exact ⟨rfl, HB.out⟩

/-- What RawBytes has made so far. -/
def RawK (w : World) (g : Nat) (L : List Int) (A : Option Addr) (cap k m n : Nat) (v : Value) (w' : World) : Prop :=
  ∃ (bs : List Int) (j : Nat), OwnB w' w.heap.size v bs ∧ IsB bs ∧ bs.length ≤ m ∧ j ≤ k + n ∧ Went w g L A cap j w'
theorem RawK.more {w w' : World} {g : Nat} {L : List Int} {A : Option Addr} {cap k m n m' n' : Nat} {v : Value} (h : RawK w g L A cap k m n v w') (hm : m ≤ m') (hn : n ≤ n') : RawK w g L A cap k m' n' v w' := by
  obtain ⟨bs, j, h1, h2, h3, h4, h5⟩ := h
  exact ⟨bs, j, h1, h2, by omega, by omega, h5⟩

set_option maxRecDepth 100000 in
set_option maxHeartbeats 4000000 in
theorem rawBytes_went (w : World) (g : Nat) (L : List Int) (A : Option Addr) (cap k : Nat) (hS : Strm w g L A cap k) (hk : k ≤ 800000000) :
    Calls Try.prog 18 #[.pointer (some ⟨g, 0, none⟩)] w fun e w' => ∃ v, e = .returned v ∧ RawK w g L A cap k 100 30 v w' := by
  have hlt0 := hS.lt
  have hr := nxt_range L k 5 (by omega)
  go_enter Try.func18, Try.ntmps18
  go_wp2_with fail
  refine (range_went _ g L A cap k 0 4 hS (by omega) (by omega) (by omega) (by omega)).mono ?_
  rintro e w1 ⟨rfl, hw1, hz1⟩
  rw [show (0 : Int) + nxt L k (4 - 0 + 1) = ((nxt L k 5).toNat : Int) by rw [show (4 : Int) - 0 + 1 = 5 from rfl]; omega]
  have hN : (nxt L k 5).toNat ≤ 4 := by omega
  generalize (nxt L k 5).toNat = N at *
  clear hr hz1
  go_wp2_with fail
  go_loopw [3, 8] (fun v i wr => ∃ j : Nat, j ≤ N ∧ i = .int .i64 (j : Int) ∧ RawK w g L A cap k (6 * j) (1 + j) v wr) (fun _ i _ => N - (intOf i).toNat)
  case atStart => exact ⟨0, by omega, rfl, [], k + 1, OwnB.nil _ _, IsB.nil, by simp, by omega, hw1⟩
  case round =>
    obtain ⟨j, hj, rfl, hraw⟩ := hrel
    by_cases hlt : j < N
    · obtain ⟨bs, q, hown, hB, hlen, hq, hwr⟩ := hraw
      have hszr := hwr.2.size
      go_wp2_with fail
      refine (aNumber_went _ g L A cap q hwr.1 (by omega)).mono ?_
      rintro e wa ⟨n, rfl, hwa⟩
      have hown1 := hown.but hwr.1 hwa.2
      have hwa' : Went w g L A cap (q + 1) wa := ⟨hwa.1, hwr.2.trans hwa.2⟩
      clear hown hwr hwa
      go_wp2_with fail
      refine (varintOf_any n _).mono ?_
      rintro e wb ⟨vb', rfl, hownv, hbv⟩
      have hown2 := hown1.below hbv
      have hwb' : Went w g L A cap (q + 1) wb := hwa'.below hlt0 (hbv.mono hwa'.2.size)
      have hszb := hwb'.2.size
      have hBv := varR_bytes n
      have hlv := varR_len n
      have hrd := hownv.rd
      generalize (varR n).1 = news at *
      generalize (varR n).2 = ee at *
      clear hown1 hbv hwa' hownv
      go_wp2_with (at_builtin; go_loud (refine wpList_append_bytes rfl (.tmp 16) (.tmp 17) rfl w.heap.size u3 bs rfl (by exact hown2) _ rfl news hrd (by omega) (by omega) hszb ?_); intro v3 w3 hown3 hb3)
      have hw3 : Went w g L A cap (q + 1) w3 := hwb'.below hlt0 hb3
      go_roundw
      case rel => exact ⟨j + 1, by omega, by go_num, bs ++ news, q + 1, hown3, hB.app hBv, by simp; omega, by omega, hw3⟩
      case measure => simp [intOf]; omega
    · have hraw' := hraw.more (m' := 24) (n' := 5) (by omega) (by omega)
      have HRAW := Lib.hid hraw'
      clear hraw hraw' hw1
      obtain ⟨bs, q, hown, hB, hlen, hq, hwr⟩ := HRAW.out
      have hszr := hwr.2.size
      go_wp2_with fail
      refine (flip_went _ g L A cap q 3 hwr.1 (by omega) (by omega)).mono ?_
      rintro e wa ⟨rfl, hwa, hza⟩
      have hown1 := hown.but hwr.1 hwa.2
      have hwa' : Went w g L A cap (q + 1) wa := ⟨hwa.1, hwr.2.trans hwa.2⟩
      clear hown hwr hwa HRAW hza
      go_upto_if 21 with fail
      go_cut [3] (fun v wx => RawK w g L A cap k 25 7 v wx)
      case first =>
        by_cases hN : nxt L q 3 = 0
        · have hN' : (nxt L q 3 == 0) = true := by simpa using hN
          clear hN
          go_wp2_with fail
          refine (pick_new _ _ g L A cap (q + 1) [0, 127, 128, 255] hwa'.1 rfl (by omega) (by simp)).mono ?_
          rintro e wb ⟨rfl, hwb⟩
          have hm := pk_mem [0, 127, 128, 255] L (q + 1) (by simp)
          simp only [List.mem_cons, List.not_mem_nil, or_false] at hm
          have hpb : 0 ≤ pk [0, 127, 128, 255] L (q + 1) ∧ pk [0, 127, 128, 255] L (q + 1) < 256 := by omega
          generalize pk [0, 127, 128, 255] L (q + 1) = pb at *
          have hwr : IntKind.u8.wrap pb = pb := by simp [IntKind.wrap, IntKind.bits, IntKind.signed]; omega
          have hown2 := hown1.but hwa'.1 hwb.2
          have hwb' : Went w g L A cap (q + 2) wb := ⟨hwb.1, hwa'.2.trans hwb.2⟩
          have hszb := hwb'.2.size
          clear hm hown1 hwa' hwb
          go_wp2_with (at_builtin; go_loud (refine wpList_append_byte rfl (.tmp 22) (.tmp 27) rfl w.heap.size u3 bs rfl (by exact hown2.alloc _) wb.heap.size rfl pb (by exact Blk.new _ _ _) (by omega) (by simp; omega) ?_); intro v3 w3 hown3 hb3)
          have hw3 : Went w g L A cap (q + 2) w3 := hwb'.below hlt0 (((Below.refl _ wb).alloc hszb _).trans hb3)
          go_meet
          exact ⟨bs ++ [pb], q + 2, hown3, hB.app (IsB.one hpb), by simp; omega, by omega, hw3⟩
        · have hN' : (nxt L q 3 == 0) = false := by simpa using hN
          clear hN
          go_wp2_with fail
          go_meet
          exact ⟨bs, q + 1, hown1, hB, by omega, by omega, hwa'⟩
      case rest =>
        clear hown1 hB hlen hq hwa' hszr wa bs q
        obtain ⟨bs, q, hown, hB, hlen, hq, hwr⟩ := hcut
        have hszr := hwr.2.size
        go_wp2_with fail
        refine (flip_went _ g L A cap q 4 hwr.1 (by omega) (by omega)).mono ?_
        rintro e wa ⟨rfl, hwa, hza⟩
        have hown1 := hown.but hwr.1 hwa.2
        have hwa' : Went w g L A cap (q + 1) wa := ⟨hwa.1, hwr.2.trans hwa.2⟩
        clear hown hwr hwa hza
        go_upto_if 30 with fail
        go_cut [3] (fun v wx => RawK w g L A cap k 29 9 v wx)
        case first =>
          by_cases hN : nxt L q 4 = 0
          · have hN' : (nxt L q 4 == 0) = true := by simpa using hN
            clear hN
            have hB4 : Blk (wa.alloc (.cells #[.int .u8 128, .int .u8 128, .int .u8 128, .int .u8 0] 5)) wa.heap.size 5 (([128, 128, 128, 0] : List Int).map (Value.int .u8)).toArray := Blk.new _ _ _
            have HB4 := Lib.hid hB4
            have hr4 := nxt_range L (q + 1) 4 (by omega)
            clear hB4
            go_wp2_with fail
            refine (range_went _ g L A cap (q + 1) 1 4 (hwa'.1.alloc _) (by omega) (by omega) (by omega) (by omega)).mono ?_
            rintro e wb ⟨rfl, hwb, hzb⟩
            clear hzb
            rw [show (1 : Int) + nxt L (q + 1) (4 - 1 + 1) = (((nxt L (q + 1) 4).toNat + 1 : Nat) : Int) by rw [show (4 : Int) - 1 + 1 = 4 from rfl]; omega]
            have hrr : (nxt L (q + 1) 4).toNat + 1 ≤ 4 ∧ 1 ≤ (nxt L (q + 1) 4).toNat + 1 := by omega
            generalize (nxt L (q + 1) 4).toNat + 1 = r at *
            have hown2 := hown1.but hwa'.1 (((But.refl g wa).alloc _).trans hwb.2)
            have hwb' : Went w g L A cap (q + 2) wb := ⟨hwb.1, hwa'.2.trans (((But.refl g wa).alloc _).trans hwb.2)⟩
            have hszb := hwb'.2.size
            have hgwa : g < wa.heap.size := by have := hwa'.2.size; omega
            have hrd := RdB.ofBlk (c := 4) (HB4.out.but hwb.2 (by omega)) (show r ≤ ([128, 128, 128, 0] : List Int).length by simp; omega) (by omega) (by simp [maxLen])
            have hBr : IsB (([128, 128, 128, 0] : List Int).take r) := fun x hx => by have := List.mem_of_mem_take hx; simp at this; omega
            have hlr : (([128, 128, 128, 0] : List Int).take r).length ≤ 4 := by simp; omega
            generalize ([128, 128, 128, 0] : List Int).take r = news at *
            clear hown1 hwa' hwb hr4
            go_wp2_with (at_builtin; go_loud (refine wpList_append_bytes rfl (.tmp 31) (.tmp 35) rfl w.heap.size u3 bs rfl (by exact hown2) _ rfl news (by exact hrd) (by omega) (by omega) hszb ?_); intro v3 w3 hown3 hb3)
            have hw3 : Went w g L A cap (q + 2) w3 := hwb'.below hlt0 hb3
            go_meet
            exact ⟨bs ++ news, q + 2, hown3, hB.app hBr, by simp; omega, by omega, hw3⟩
          · have hN' : (nxt L q 4 == 0) = false := by simpa using hN
            clear hN
            go_wp2_with fail
            go_meet
            exact ⟨bs, q + 1, hown1, hB, by omega, by omega, hwa'⟩
        case rest =>
          clear hown1 hB hlen hq hwa' hszr wa bs q
          obtain ⟨bs, q, hown, hB, hlen, hq, hwr⟩ := hcut
          have hszr := hwr.2.size
          go_wp2_with fail
          refine (flip_went _ g L A cap q 6 hwr.1 (by omega) (by omega)).mono ?_
          rintro e wa ⟨rfl, hwa, hza⟩
          have hown1 := hown.but hwr.1 hwa.2
          have hwa' : Went w g L A cap (q + 1) wa := ⟨hwa.1, hwr.2.trans hwa.2⟩
          clear hown hwr hwa hza
          by_cases hN : nxt L q 6 = 0
          · have hN' : (nxt L q 6 == 0) = true := by simpa using hN
            clear hN
            have hB4 : Blk (wa.alloc (.cells #[.int .u8 255] 5)) wa.heap.size 5 #[.int .u8 255] := Blk.new _ _ _
            have HB4 := Lib.hid hB4
            have hr4 := nxt_range L (q + 1) 9 (by omega)
            clear hB4
            go_wp2_with fail
            refine (range_went _ g L A cap (q + 1) 4 12 (hwa'.1.alloc _) (by omega) (by omega) (by omega) (by omega)).mono ?_
            rintro e wb ⟨rfl, hwb, hzb⟩
            clear hzb
            rw [show (4 : Int) + nxt L (q + 1) (12 - 4 + 1) = (((nxt L (q + 1) 9).toNat + 4 : Nat) : Int) by rw [show (12 : Int) - 4 + 1 = 9 from rfl]; omega]
            have hrr : (nxt L (q + 1) 9).toNat + 4 ≤ 12 ∧ 1 ≤ (nxt L (q + 1) 9).toNat + 4 := by omega
            generalize (nxt L (q + 1) 9).toNat + 4 = r at *
            have hown2 := hown1.but hwa'.1 (((But.refl g wa).alloc _).trans hwb.2)
            have hwb' : Went w g L A cap (q + 2) wb := ⟨hwb.1, hwa'.2.trans (((But.refl g wa).alloc _).trans hwb.2)⟩
            have hszb := hwb'.2.size
            have hgwa : g < wa.heap.size := by have := hwa'.2.size; omega
            have hbk := HB4.out.but hwb.2 (by omega)
            clear hown1 hwa' hwb hr4
            go_wp2_with fail
            refine (repeat_any _ r 255 _ hbk (by omega)).mono ?_
            rintro e wc ⟨vc, rfl, hownc, hbc⟩
            have hown3 := hown2.below hbc
            have hwc' : Went w g L A cap (q + 2) wc := hwb'.below hlt0 (hbc.mono hszb)
            have hszc := hwc'.2.size
            have hrd := hownc.rd
            have hBr : IsB (List.replicate r (255 : Int)) := fun x hx => by obtain ⟨_, rfl⟩ := List.mem_replicate.mp hx; omega
            have hlr : (List.replicate r (255 : Int)).length ≤ 12 := by simp; omega
            generalize List.replicate r (255 : Int) = news at *
            clear hown2 hwb' hbc hownc hbk
            go_wp2_with (at_builtin; go_loud (refine wpList_append_bytes rfl (.tmp 39) (.tmp 43) rfl w.heap.size u3 bs rfl (by exact hown3) _ rfl news (by exact hrd) (by omega) (by omega) hszc ?_); intro v3 w3 hown4 hb3)
            have hw3 : Went w g L A cap (q + 2) w3 := hwc'.below hlt0 hb3
            go_ret
            exact ⟨_, rfl, bs ++ news, q + 2, hown4, hB.app hBr, by simp; omega, by omega, hw3⟩
          · have hN' : (nxt L q 6 == 0) = false := by simpa using hN
            clear hN
            go_wp2_with fail
            go_ret
            exact ⟨_, rfl, bs, q + 1, hown1, hB, by omega, by omega, hwa'⟩
end Go.Proofs.Ytiaoclnhocadeaa
