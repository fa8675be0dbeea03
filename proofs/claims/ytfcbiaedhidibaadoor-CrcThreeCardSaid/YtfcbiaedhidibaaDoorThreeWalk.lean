/-
  THE WALK OF CrcThree.
-/
import Derived.Test.YtfcbiaedhidibaaDoorCrcLocs
import Derived.Test.YtfcbiaedhidibaaDoorCrcPatch
import Derived.OwnWalk
namespace Go.Proofs.YtfcbiaedhidibaaDoor.crcThree
open Go Go.RowKit

/-- The first j bytes of t, 0 behind them. -/
def ahead (j : Nat) (t : List UInt8) : List UInt8 := t.take j ++ List.replicate (t.length - j) 0
theorem ahead_len (j : Nat) (t : List UInt8) (h : j ≤ t.length) : (ahead j t).length = t.length := by simp [ahead]; omega
theorem ahead_all (t : List UInt8) : ahead t.length t = t := by simp [ahead]
theorem ahead_at (j : Nat) (t : List UInt8) (h : j < t.length) : (bcells (ahead j t))[j]? = some (.int .u8 0) := by
  unfold bcells ahead
  rw [List.getElem?_map, List.getElem?_append_right (by simp; omega), List.length_take, Nat.min_eq_left (by omega), Nat.sub_self, List.getElem?_replicate, if_pos (by omega)]; rfl
theorem ahead_next (j : Nat) (t : List UInt8) (h : j < t.length) : (bcells (ahead j t)).set j (bcell t[j]) = bcells (ahead (j + 1) t) := by
  unfold bcells ahead
  rw [← List.map_set]
  congr 1
  rw [List.set_append_right _ _ (by simp; omega), List.length_take, Nat.min_eq_left (by omega), Nat.sub_self, List.take_succ_eq_append_getElem h, List.append_assoc]
  congr 1
  rw [show t.length - j = (t.length - (j + 1)) + 1 by omega, List.replicate_succ, List.set_cons_zero]; rfl
theorem ahead_start (t : List UInt8) : bcells (ahead 0 t) = List.replicate t.length (.int .u8 0) := by
  simp only [ahead, bcells, List.take_zero, List.nil_append, List.map_replicate, Nat.sub_zero]; rfl

/-- What each operation of the region leaves. -/
def V (d v1 v2 v3 : Value) (n : Nat) (u1 u2 u3 : Value) (sd sa sb sc : Nat) : Nat → World → Value → Prop
  | 0 => Is d
  | 1 => Box1 d
  | 2 => Is (.int .u32 (sd : Int))
  | 3 => Is v1
  | 4 => Is (.int .i64 (n : Int))
  | 5 => Is u1
  | 6 => Box1 u1
  | 7 => Is (.int .u32 (sa : Int))
  | 8 => Is v2
  | 9 => Is (.int .i64 (n : Int))
  | 10 => Is u2
  | 11 => Box1 u2
  | 12 => Is (.int .u32 (sb : Int))
  | 13 => Is (.int .u32 ((sa ^^^ sb : Nat) : Int))
  | 14 => Is v3
  | 15 => Is (.int .i64 (n : Int))
  | 16 => Is u3
  | 17 => Box1 u3
  | 18 => Is (.int .u32 (sc : Int))
  | 19 => Is (.int .u32 ((sa ^^^ sb ^^^ sc : Nat) : Int))
  | 20 => Is (.bool ((sd : Int) == ((sa ^^^ sb ^^^ sc : Nat) : Int)))
  | 21 => Is (.bool ((sd : Int) == ((sa ^^^ sb ^^^ sc : Nat) : Int)))
  | _ => fun _ _ => True
theorem V_mono (d v1 v2 v3 : Value) (n : Nat) (u1 u2 u3 : Value) (sd sa sb sc : Nat) (i : Nat) (w w' : World) (v : Value) (h : Adds w w') (hv : V d v1 v2 v3 n u1 u2 u3 sd sa sb sc i w v) : V d v1 v2 v3 n u1 u2 u3 sd sa sb sc i w' v := by
  unfold V at *
  split at hv <;> first | exact Is.mono h hv | exact Box1.mono h hv | trivial

set_option maxHeartbeats 1000000 in
theorem walk_n (A B C : Option Addr) (ca cb cc L M N n : Nat) (la lb lc : List UInt8) (hn : n = min (min L 100) (min M N)) (ea : la.length = n) (eb : lb.length = n) (ec : lc.length = n) (w : World)
    (a1' : L ≤ ca) (a2 : ca ≤ maxLen) (a3 : A = none → ca = 0) (a4 : Row w A (fun b => b < w.heap.size) (bcells la))
    (b1 : M ≤ cb) (b2 : cb ≤ maxLen) (b3 : B = none → cb = 0) (b4 : Row w B (fun b => b < w.heap.size) (bcells lb))
    (c1 : N ≤ cc) (c2 : cc ≤ maxLen) (c3 : C = none → cc = 0) (c4 : Row w C (fun b => b < w.heap.size) (bcells lc)) (hT : Taken w) :
    Calls Tryd.prog 5 #[.slice A L ca, .slice B M cb, .slice C N cc] w fun e w' => e = .returned (.bool true) ∧ Below w.heap.size w w' := by
  have HA := Lib.hid a4
  have HB := Lib.hid b4
  have HC := Lib.hid c4
  have HT := Lib.hid hT
  have Hn := Lib.hid hn
  have E1 := Lib.hid ea
  have E2 := Lib.hid eb
  have E3 := Lib.hid ec
  clear a4 b4 c4 hT hn ea eb ec
  unfold maxLen at a2 b2 c2
  have m1 : (if (100 : Int) < (L : Int) then (100 : Int) else (L : Int)) = ((min L 100 : Nat) : Int) := by split <;> omega
  have m2 : (if N < M then (N : Int) else (M : Int)) = ((min M N : Nat) : Int) := by split <;> omega
  have m3 : (if min M N < min L 100 then ((min M N : Nat) : Int) else ((min L 100 : Nat) : Int)) = (n : Int) := by have := Hn.out; split <;> omega
  have hn1 : n ≤ L := by have := Hn.out; omega
  have hn2 : n ≤ M := by have := Hn.out; omega
  have hn3 : n ≤ N := by have := Hn.out; omega
  have hn4 : n ≤ 100 := by have := Hn.out; omega
  generalize min L 100 = p at m1 m3
  generalize min M N = q at m2 m3
  go_enter Tryd.func5, Tryd.ntmps5
  go_wp2_with fail
  refine (begun_any _ HT.out).mono ?_
  rintro e w1 ⟨rfl, hb1⟩
  have HB1 := Lib.hid hb1
  clear hb1
  obtain ⟨i0, hi, hz0, hz1, hz2⟩ := info_parts byte_elem.info
  have hsz := HB1.out.size
  have b2' : i0.bytes * n ≤ 281474976710656 := by rw [hz2]; omega
  have Hi := Lib.hid hi
  have Hz0 := Lib.hid hz0
  have Hz1 := Lib.hid hz1
  clear hi hz0 hz1 hz2
  go_wp2_with (refine wpList_make_full _ rfl _ _ 24 rfl w.heap.size 5 i0 (.int .u8 0) 1 Tryd.underlying24 Hi.out Hz0.out Hz1.out .i64 .i64 _ _ n rfl rfl rfl rfl b2' ?b3 hsz ?_)
  case b3 => unfold maxLen; omega
  intro w2 hown hg
  have ht : (xorL (xorL la lb) lc).length = n := by
    rw [xorL_len _ _ (by rw [xorL_len _ _ (by rw [E1.out, E2.out]), E1.out, E3.out]), xorL_len _ _ (by rw [E1.out, E2.out]), E1.out]
  have hown0 : w2.ownsRow w.heap.size 5 1 (.slice (some ⟨w1.heap.size, 0, none⟩) n n) n (bcells (ahead 0 (xorL (xorL la lb) lc))) := by
    rw [ahead_start, ht]
    have e : (madeCells #[Value.int .u8 0] n).toList = List.replicate n (.int .u8 0) := toList_madeCells_one _ _
    rw [← e]; exact hown
  have hk2 : Keeps (fun _ => True) w w2 := (Keeps.of_below HB1.out _).trans (Keeps.of_grown hg (fun _ h => by cases h))
  have HO := Lib.hid hown0
  have HK := Lib.hid hk2
  have Hlen := Lib.hid ht
  clear hown hown0 hk2 hg ht m1 m2 m3
  generalize w1.heap.size = g at hsz HO
  go_wp2
  go_loopw [10] (fun i wr => ∃ j : Nat, j ≤ n ∧ i = .int .i64 j ∧ wr.ownsRow w.heap.size 5 1 (.slice (some ⟨g, 0, none⟩) n n) n (bcells (ahead j (xorL (xorL la lb) lc))) ∧ Keeps (fun _ => True) w wr) (fun i _ => n - (intOf i).toNat)
  case atStart => exact ⟨0, Nat.zero_le _, rfl, HO.out, HK.out⟩
  case round =>
    obtain ⟨j, hj, rfl, hown, hkp⟩ := hrel
    by_cases hlj : j < n
    · have ja : j < la.length := by rw [E1.out]; exact hlj
      have jb : j < lb.length := by rw [E2.out]; exact hlj
      have jc : j < lc.length := by rw [E3.out]; exact hlj
      have jt : j < (xorL (xorL la lb) lc).length := by rw [Hlen.out]; exact hlj
      obtain ⟨ba, oa, rfl, _, cella⟩ := (HA.out.keep (hkp.mono fun _ _ _ => trivial)).at_ (k := j) (by simpa [bcells] using ja)
      obtain ⟨bb, ob, rfl, _, cellb⟩ := (HB.out.keep (hkp.mono fun _ _ _ => trivial)).at_ (k := j) (by simpa [bcells] using jb)
      obtain ⟨bc, oc, rfl, _, cellc⟩ := (HC.out.keep (hkp.mono fun _ _ _ => trivial)).at_ (k := j) (by simpa [bcells] using jc)
      simp only [bcells, List.getElem_map, bcell] at cella cellb cellc
      have celld : wr.cell? ⟨g, j, none⟩ = some (.int .u8 0) := (hown.cellAt j (by omega)).trans (ahead_at j _ jt)
      have hf : wr.frozen? ⟨g, j, none⟩ = false := hown.frozenAt j
      have et : (xorL (xorL la lb) lc)[j] = la[j] ^^^ lb[j] ^^^ lc[j] := by simp [xorL]
      have hst := hown.stored j (bcell (xorL (xorL la lb) lc)[j])
      rw [ahead_next j _ jt, et] at hst
      have ev : bcell (la[j] ^^^ lb[j] ^^^ lc[j]) = .int .u8 ((la[j].toNat ^^^ lb[j].toNat ^^^ lc[j].toNat : Nat) : Int) := by
        simp [bcell, UInt8.toNat_xor]
      rw [ev] at hst
      have x1 : bits .xor .u8 ((la[j].toNat : Nat) : Int) ((lb[j].toNat : Nat) : Int) = ((la[j].toNat ^^^ lb[j].toNat : Nat) : Int) := u8_xor_nat _ _ la[j].toNat_lt lb[j].toNat_lt
      have x2 : bits .xor .u8 ((la[j].toNat ^^^ lb[j].toNat : Nat) : Int) ((lc[j].toNat : Nat) : Int) = ((la[j].toNat ^^^ lb[j].toNat ^^^ lc[j].toNat : Nat) : Int) :=
        u8_xor_nat _ _ (Nat.xor_lt_two_pow (n := 8) la[j].toNat_lt lb[j].toNat_lt) lc[j].toNat_lt
      generalize la[j].toNat = p at cella x1 x2 hst
      generalize lb[j].toNat = q at cellb x1 x2 hst
      generalize lc[j].toNat = r at cellc x2 hst
      have HS := Lib.hid hst
      have HK3 := Lib.hid hkp
      clear hst hown hkp ev et ja jb jc jt
      go_wp2
      go_region
      go_wp2
      go_roundw
      case rel => exact ⟨j + 1, by omega, by go_num, HS.out.1, (HK3.out.setCell (p := ⟨g, j, none⟩) (.inl hsz) _).drew⟩
      case measure => simp [intOf]; omega
    · obtain rfl : j = n := by omega
      have hown2 : wr.ownsRow w.heap.size 5 1 (.slice (some ⟨g, 0, none⟩) j j) j (bcells (xorL (xorL la lb) lc)) := by
        have := ahead_all (xorL (xorL la lb) lc)
        rw [Hlen.out] at this
        rwa [this] at hown
      rw [← Hlen.out] at hown2
      have HD := Lib.hid (Row.of_own (xs := bcells (xorL (xorL la lb) lc)) (by rw [bcells_len]; exact hown2))
      have Hm := Lib.hid (show crcN (xorL (xorL la lb) lc) = crcN la ^^^ crcN lb ^^^ crcN lc from crcN_three la lb lc (by rw [E1.out, E2.out]) (by rw [E2.out, E3.out]))
      have HK3 := Lib.hid hkp
      clear hown hown2 hkp hlj
      go_wp2
      refine wp_region_inv (R := Adds) (V := V (.slice (some ⟨g, 0, none⟩) j j) (.slice A L ca) (.slice B M cb) (.slice C N cc) j (.slice A j ca) (.slice B j cb) (.slice C j cc)
        (crcN (xorL (xorL la lb) lc)) (crcN la) (crcN lb) (crcN lc)) (w0 := wr) (by kernel_rfl) (fun _ _ _ => Adds.trans) (V_mono _ _ _ _ _ _ _ _ _ _ _ _) (by kernel_rfl) (Adds.refl wr).drew (each_of ?_) ?_
      · refine ⟨?_, ?_, ?_, ?_, ?_, ?_, ?_, ?_, ?_, ?_, ?_, ?_, ?_, ?_, ?_, ?_, ?_, ?_, ?_, ?_, ?_, ?_, trivial⟩ <;> intro a1 w2 L
        · exact loc_move rfl (L.old 9 (by kernel_rfl))
        · exact loc_hdr rfl (L.val 0 47 (by kernel_rfl) (by kernel_rfl))
        · exact loc_sum Hlen.out.symm rfl ((HT.out.keep HK3.out).below L.rel.2) (HD.out.keep (Keeps.of_below L.rel.2 _)) (by rw [Hlen.out]; unfold maxLen; omega) (L.val 1 48 (by kernel_rfl) (by kernel_rfl))
        · exact loc_move rfl (L.old 0 (by kernel_rfl))
        · exact loc_move rfl (L.old 8 (by kernel_rfl))
        · exact loc_cut rfl (L.val 3 50 (by kernel_rfl) (by kernel_rfl)) (L.val 4 51 (by kernel_rfl) (by kernel_rfl)) hn1 a1' a3 a2
        · exact loc_hdr rfl (L.val 5 52 (by kernel_rfl) (by kernel_rfl))
        · exact loc_sum E1.out.symm rfl ((HT.out.keep HK3.out).below L.rel.2) ((HA.out.keep (HK3.out.mono fun _ _ _ => trivial)).keep (Keeps.of_below L.rel.2 _)) (by rw [E1.out]; unfold maxLen; omega) (L.val 6 53 (by kernel_rfl) (by kernel_rfl))
        · exact loc_move rfl (L.old 1 (by kernel_rfl))
        · exact loc_move rfl (L.old 8 (by kernel_rfl))
        · exact loc_cut rfl (L.val 8 55 (by kernel_rfl) (by kernel_rfl)) (L.val 9 56 (by kernel_rfl) (by kernel_rfl)) hn2 b1 b3 b2
        · exact loc_hdr rfl (L.val 10 57 (by kernel_rfl) (by kernel_rfl))
        · exact loc_sum E2.out.symm rfl ((HT.out.keep HK3.out).below L.rel.2) ((HB.out.keep (HK3.out.mono fun _ _ _ => trivial)).keep (Keeps.of_below L.rel.2 _)) (by rw [E2.out]; unfold maxLen; omega) (L.val 11 58 (by kernel_rfl) (by kernel_rfl))
        · exact loc_xor32 rfl (L.val 7 54 (by kernel_rfl) (by kernel_rfl)) (L.val 12 59 (by kernel_rfl) (by kernel_rfl)) (crcN_lt _) (crcN_lt _)
        · exact loc_move rfl (L.old 2 (by kernel_rfl))
        · exact loc_move rfl (L.old 8 (by kernel_rfl))
        · exact loc_cut rfl (L.val 14 61 (by kernel_rfl) (by kernel_rfl)) (L.val 15 62 (by kernel_rfl) (by kernel_rfl)) hn3 c1 c3 c2
        · exact loc_hdr rfl (L.val 16 63 (by kernel_rfl) (by kernel_rfl))
        · exact loc_sum E3.out.symm rfl ((HT.out.keep HK3.out).below L.rel.2) ((HC.out.keep (HK3.out.mono fun _ _ _ => trivial)).keep (Keeps.of_below L.rel.2 _)) (by rw [E3.out]; unfold maxLen; omega) (L.val 17 64 (by kernel_rfl) (by kernel_rfl))
        · exact loc_xor32 rfl (L.val 13 60 (by kernel_rfl) (by kernel_rfl)) (L.val 18 65 (by kernel_rfl) (by kernel_rfl)) (xor_lt32 (crcN_lt _) (crcN_lt _)) (crcN_lt _)
        · exact loc_eq32 rfl (L.val 2 49 (by kernel_rfl) (by kernel_rfl)) (L.val 19 66 (by kernel_rfl) (by kernel_rfl))
        · exact loc_assign rfl (L.val 20 67 (by kernel_rfl) (by kernel_rfl))
      · intro vs w3 hw3 hlen hv
        match vs, hlen with
        | [v0, v1, v2, v3, v4, v5, v6, v7, v8, v9, v10, v11, v12, v13, v14, v15, v16, v17, v18, v19, v20, v21], _ =>
          have e21 : v21 = .bool (((crcN (xorL (xorL la lb) lc) : Nat) : Int) == ((crcN la ^^^ crcN lb ^^^ crcN lc : Nat) : Int)) := hv 21 6 (by kernel_rfl)
          rw [← Hm.out] at e21
          simp only [beq_self_eq_true] at e21
          clear hv
          subst e21
          have Hfin := Lib.hid (show Below w.heap.size w w3 from (HK3.out.trans (Keeps.of_below hw3.2 _)).below)
          simp only [putAll, List.map, Act.put, List.setIfInBounds_toArray, List.set_cons_succ, List.set_cons_zero, Exit.then]
          go_wp2
          go_ret
          exact ⟨rfl, Hfin.out⟩

theorem walk (w : World) (A : Option Addr) (ca : Nat) (la : List UInt8) (a1 : la.length ≤ ca) (a2 : ca ≤ maxLen) (a3 : A = none → ca = 0) (a4 : Row w A (fun b => b < w.heap.size) (bcells la))
    (B : Option Addr) (cb : Nat) (lb : List UInt8) (b1 : lb.length ≤ cb) (b2 : cb ≤ maxLen) (b3 : B = none → cb = 0) (b4 : Row w B (fun b => b < w.heap.size) (bcells lb))
    (C : Option Addr) (cc : Nat) (lc : List UInt8) (c1 : lc.length ≤ cc) (c2 : cc ≤ maxLen) (c3 : C = none → cc = 0) (c4 : Row w C (fun b => b < w.heap.size) (bcells lc)) (hT : Taken w) :
    Calls Tryd.prog 5 #[.slice A la.length ca, .slice B lb.length cb, .slice C lc.length cc] w fun e w' => e = .returned (.bool true) ∧ Below w.heap.size w w' := by
  refine walk_n A B C ca cb cc _ _ _ (min (min la.length 100) (min lb.length lc.length)) (la.take (min (min la.length 100) (min lb.length lc.length))) (lb.take (min (min la.length 100) (min lb.length lc.length))) (lc.take (min (min la.length 100) (min lb.length lc.length))) rfl
    (by rw [List.length_take]; omega) (by rw [List.length_take]; omega) (by rw [List.length_take]; omega) w a1 a2 a3 (bcells_take a4 _) b1 b2 b3 (bcells_take b4 _) c1 c2 c3 (bcells_take c4 _) hT
end Go.Proofs.YtfcbiaedhidibaaDoor.crcThree
