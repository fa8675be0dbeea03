/-
  THE PROGRAM's LOG: find: what the sectors tell.
-/
import Derived.Test.YtgdbkmecfbkobaaDoorSlgSegm
namespace Go.Proofs.YtgdbkmecfbkobaaDoor
open Go Go.RowKit Go.Joins

/-- What 'find' keeps over the sectors: the latest head's slot, its number, the highest number. -/
structure Fnd where
  slot : Nat
  head : Int
  top : Int
def Fnd.step (t : Fnd) (i k : Nat) : Option (Nat × List UInt8) → Fnd
  | none => t
  | some (n, _) => if k = 0 ∧ t.head < (n : Int) then ⟨i, (n : Int), max t.top (n : Int)⟩ else ⟨t.slot, t.head, max t.top (n : Int)⟩
def findIn (rows : List (List UInt8)) (p i : Nat) (t : Fnd) : Nat → Fnd
  | 0 => t
  | k + 1 => (findIn rows p i t k).step i k (secAt rows p i k)
def findTo (rows : List (List UInt8)) (p : Nat) : Nat → Fnd
  | 0 => ⟨0, -1, -1⟩
  | i + 1 => findIn rows p i (findTo rows p i) 8
/-- Its numbers are of the log. -/
structure Fnd.Ok (t : Fnd) (i : Nat) : Prop where
  s : t.slot ≤ i
  h0 : -1 ≤ t.head
  h1 : t.head ≤ 17592186044416
  t0 : -1 ≤ t.top
  t1 : t.top ≤ 17592186044416
theorem Fnd.Ok.step {t : Fnd} {i j : Nat} (h : t.Ok i) (hi : j ≤ i) (k : Nat) (o : Option (Nat × List UInt8)) (ho : ∀ n x, o = some (n, x) → n ≤ 17592186044416) : (t.step j k o).Ok i := by
  obtain ⟨h1, h2, h3, h4, h5⟩ := h
  cases o with
  | none => exact ⟨h1, h2, h3, h4, h5⟩
  | some nx =>
    have hn := ho nx.1 nx.2 rfl
    have hn' : ((nx.1 : Nat) : Int) ≤ 17592186044416 := by omega
    unfold Fnd.step
    simp only
    split
    · exact ⟨hi, by simp, hn', by simp; omega, by simp; omega⟩
    · exact ⟨h1, h2, h3, by simp; omega, by simp; omega⟩

set_option maxRecDepth 100000 in
set_option maxHeartbeats 1000000 in
theorem find_any (w : World) (hT : Taken w) (q p i n : Nat) (K T : Value) (sl left nx : Nat) (hB : LBlk w q p i n K sl left T nx) (F : Foot) (s : SDev) (hd : DAt w p F s) (hi : i ≤ 2048) (hn : n ≤ 200) (hin : i + 8 * n ≤ s.now.length)
    (hnum : ∀ j k m x, j < n → k < 8 → secAt s.now i j k = some (m, x) → m ≤ 17592186044416) (R : World → Prop) (t : Fnd) (ht : t = findTo s.now i n) (hcase : (t.top = -1 ∧ t.head = -1) ∨ (0 ≤ t.top ∧ 0 ≤ t.head))
    (hno : t.top = -1 → ∀ w1, Kp w w1 → R w1)
    (hyes : 0 ≤ t.top → ∀ w1, Kp w w1 → LBlk w1 q p i n K sl left T nx → Calls Tryd.prog 37 #[.pointer (some ⟨q, 0, none⟩), .int .i64 (t.slot : Int)] (w1.setCell ⟨q, 7, none⟩ (.int .i64 (t.top / 8 + 212))) fun e w' => (∃ v, e = .returned v) ∧ R w') :
    Calls Tryd.prog 22 #[.pointer (some ⟨q, 0, none⟩)] w fun e w' => (∃ v, e = .returned v) ∧ R w' := by
  have hL := hB.head
  have HLD := Lib.hid (fun (wr : World) (hk : Kp w wr) (j k : Nat) (hj : j < n) (hk8 : k < 8) => lload_any wr (hT.keep hk) q p i n (hL.keep hk trivial) F s (hd.keep (hk.mono fun _ _ _ => trivial)) j k hi (by omega) hk8 (by omega))
  have c2 := hL.n
  have HNUM := Lib.hid hnum
  have HB := Lib.hid hB
  have HT := Lib.hid ht
  have HNO := Lib.hid hno
  have HYES := Lib.hid hyes
  have hqlt : q < w.heap.size := (Array.getElem?_eq_some_iff.1 hB).1
  have HCASE := Lib.hid hcase
  clear hT hL hd hnum hin hB ht hno hyes hcase
  go_enter Tryd.func22, Tryd.ntmps22
  go_wp2_with fail
  go_loopw [2, 3, 4, 14] (fun v2 v3 v4 vj wr => ∃ (j ts : Nat) (th tt : Int), j ≤ n ∧ vj = .int .i64 j ∧ v2 = .int .i64 (ts : Int) ∧ v3 = .int .i64 th ∧ v4 = .int .i64 tt ∧ RowKit.Hid ((⟨ts, th, tt⟩ : Fnd) = findTo s.now i j) ∧ RowKit.Hid ((⟨ts, th, tt⟩ : Fnd).Ok n) ∧ Kp w wr) (fun _ _ _ vj _ => n - (intOf vj).toNat)
  case atStart => exact ⟨0, 0, -1, -1, Nat.zero_le _, rfl, rfl, rfl, rfl, Lib.hid rfl, Lib.hid ⟨Nat.zero_le _, by decide, by decide, by decide, by decide⟩, Keeps.refl _ _⟩
  case round =>
    obtain ⟨j, ts, th, tt, hjn, rfl, rfl, rfl, rfl, ht, hok, hkp⟩ := hrel
    by_cases hlt : j < n
    · have HK := Lib.hid hkp
      clear hkp
      go_wp2_with fail
      go_loopw [2, 3, 4, 17] (fun v2 v3 v4 vk wr => ∃ (k us : Nat) (uh ut : Int), k ≤ 8 ∧ vk = .int .i64 k ∧ v2 = .int .i64 (us : Int) ∧ v3 = .int .i64 uh ∧ v4 = .int .i64 ut ∧ RowKit.Hid ((⟨us, uh, ut⟩ : Fnd) = findIn s.now i j (findTo s.now i j) k) ∧ RowKit.Hid ((⟨us, uh, ut⟩ : Fnd).Ok n) ∧ Kp w wr) (fun _ _ _ vk _ => 8 - (intOf vk).toNat)
      case atStart => exact ⟨0, ts, th, tt, Nat.zero_le _, rfl, rfl, rfl, rfl, ht, hok, HK.out⟩
      case round =>
        obtain ⟨k, us, uh, ut, hk8, rfl, rfl, rfl, rfl, hu, hok2, hkp2⟩ := hrel
        by_cases hlt8 : k < 8
        · have HLC := Lib.hid (HLD.out wr hkp2 j k hlt hlt8)
          have HK2 := Lib.hid hkp2
          clear hkp2
          go_wp2_with fail
          refine HLC.out.mono ?_
          rintro e w2 ⟨rfl, hk2⟩
          have HK3 := Lib.hid (HK2.out.trans hk2)
          have hs1 : findIn s.now i j (findTo s.now i j) (k + 1) = (findIn s.now i j (findTo s.now i j) k).step j k (secAt s.now i j k) := rfl
          rw [← hu.out] at hs1
          have HS1 := Lib.hid hs1
          clear hk2 hs1 HLC
          rcases hsec : secAt s.now i j k with _ | ⟨m, x⟩
          · have HSEC := Lib.hid hsec
            clear hsec
            unfold ldV
            go_wp2_with fail
            go_roundw
            case rel => exact ⟨k + 1, us, uh, ut, by omega, by go_num, rfl, rfl, rfl, Lib.hid (by have := HS1.out; rw [HSEC.out] at this; exact this.symm), hok2, HK3.out⟩
            case measure => simp [intOf]; omega
          · have hm := HNUM.out j k m x hlt hlt8 hsec
            have HSEC := Lib.hid hsec
            clear hsec
            unfold ldV
            have hst : ∀ a b c, (⟨a, b, c⟩ : Fnd) = (⟨us, uh, ut⟩ : Fnd).step j k (some (m, x)) → RowKit.Hid ((⟨a, b, c⟩ : Fnd) = findIn s.now i j (findTo s.now i j) (k + 1)) ∧ RowKit.Hid ((⟨a, b, c⟩ : Fnd).Ok n) := fun a b c e => by
              have h1 := HS1.out
              rw [HSEC.out] at h1
              exact ⟨Lib.hid (by rw [h1, e]), Lib.hid (by rw [e]; exact hok2.out.step (Nat.le_of_lt hlt) k _ (fun n' x' e' => by cases e'; exact hm))⟩
            have HST := Lib.hid hst
            have hmx := hok2.out.t1
            have hmx0 := hok2.out.t0
            simp only at hmx hmx0
            clear hst
            by_cases hk0 : k = 0
            · have dk : ((k : Int) == 0) = true := by simp [hk0]
              by_cases hgt : uh < (m : Int)
              · have dh : decide (uh < (m : Int)) = true := by simp [hgt]
                have dh2 : decide ((m : Int) > uh) = true := by simp [hgt]
                have HS2 := Lib.hid (HST.out j (m : Int) (max ut (m : Int)) (by simp [Fnd.step, hk0, hgt]))
                have HGT := Lib.hid hgt
                clear hgt HST
                go_wp2_with fail
                go_roundw
                case rel => exact ⟨k + 1, j, _, max ut (m : Int), by omega, by go_num, rfl, rfl, rfl, HS2.out.1, HS2.out.2, HK3.out⟩
                case measure => simp [intOf]; omega
              · have dh : decide (uh < (m : Int)) = false := by simp; omega
                have HS2 := Lib.hid (HST.out us uh (max ut (m : Int)) (by simp [Fnd.step, hk0, hgt]))
                have HGT := Lib.hid hgt
                clear HST
                go_wp2_with fail
                go_roundw
                case rel => exact ⟨k + 1, us, _, max ut (m : Int), by omega, by go_num, rfl, rfl, rfl, HS2.out.1, HS2.out.2, HK3.out⟩
                case measure => simp [intOf]; omega
            · have dk : ((k : Int) == 0) = false := by simp; omega
              have HS2 := Lib.hid (HST.out us uh (max ut (m : Int)) (by simp [Fnd.step, hk0]))
              clear HST
              go_wp2_with fail
              go_roundw
              case rel => exact ⟨k + 1, us, _, max ut (m : Int), by omega, by go_num, rfl, rfl, rfl, HS2.out.1, HS2.out.2, HK3.out⟩
              case measure => simp [intOf]; omega
        · obtain rfl : k = 8 := by omega
          have HK2 := Lib.hid hkp2
          clear hkp2
          go_wp2_with fail
          go_roundw
          case rel => exact ⟨j + 1, us, uh, ut, by omega, by go_num, rfl, rfl, rfl, Lib.hid hu.out, hok2, HK2.out⟩
          case measure => simp [intOf]; omega
    · obtain rfl : j = n := by omega
      have HK := Lib.hid hkp
      obtain rfl : t = ⟨ts, th, tt⟩ := HT.out.trans ht.out.symm
      have hb := HB.out.keep hkp trivial
      have HB2 := Lib.hid hb
      have c7 := (cell_of_block hb 7).trans rfl
      have f7 := unfrozen_of_block hb 7
      have o1 := hok.out.t1
      have o2 := hok.out.h1
      simp only at o1 o2
      clear hkp hb
      rcases HCASE.out with ⟨e1, e2⟩ | ⟨e1, e2⟩
      · obtain rfl : tt = -1 := e1
        obtain rfl : th = -1 := e2
        go_wp2_with fail
        go_end0
        exact ⟨⟨_, rfl⟩, HNO.out trivial _ HK.out⟩
      · have e1 : 0 ≤ tt := e1
        have e2 : 0 ≤ th := e2
        have d1 : decide (0 ≤ tt) = true := by simp [e1]
        have d2 : decide (0 ≤ th) = true := by simp [e2]
        obtain ⟨t8, ht8⟩ : ∃ t8, tt / 8 = t8 := ⟨_, rfl⟩
        have q1 : tt.tdiv 8 = t8 := by rw [Int.tdiv_eq_ediv_of_nonneg (by omega)]; exact ht8
        have b1 : 0 ≤ t8 := by omega
        have b2 : t8 ≤ 2199023255552 := by omega
        have HY := Lib.hid (HYES.out e1 wr HK.out HB2.out)
        rw [show (⟨ts, th, tt⟩ : Fnd).top = tt from rfl, ht8] at HY
        clear e1 e2
        go_wp2_with fail
        refine HY.out.mono ?_
        rintro e w3 ⟨⟨v, rfl⟩, hr⟩
        go_wp2_with fail
        go_end0
        exact ⟨⟨_, rfl⟩, hr⟩

end Go.Proofs.YtgdbkmecfbkobaaDoor
