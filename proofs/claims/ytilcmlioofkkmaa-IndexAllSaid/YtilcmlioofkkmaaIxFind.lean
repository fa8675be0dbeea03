/-
  THE PROGRAM's INDEX: find.
-/
import Derived.Test.YtilcmlioofkkmaaIxHash
namespace Go.Proofs.Ytilcmlioofkkmaa
open Go Go.RowKit Go.Joins

set_option maxRecDepth 100000 in
set_option maxHeartbeats 1000000 in
theorem find_any (w : World) (q g n c : Nat) (T : Tab) (st : IxSt) (hI : IxAt w q g n c T) (hT : TabOk hashN T n st) (hn : n ≤ 1099511627776) (k : ByteArray) :
    Calls Try.prog 22 #[.pointer (some ⟨q, 0, none⟩), .string k, .int .u64 ((hashN k : Nat) : Int)] w fun e w' => w' = w ∧
      ((∃ i, i < n ∧ (T i).full = true ∧ (T i).key = k ∧ e = .returned (.tuple #[.int .i64 (i : Int), .bool true])) ∨ (ixGet st k = none ∧ e = .returned (.tuple #[.int .i64 0, .bool false]))) := by
  obtain ⟨f, hf1, hf2⟩ := hT.free
  have h0 := hT.pos
  have hh := hashN_lt k
  have HI := Lib.hid hI
  have HT := Lib.hid hT
  have c0 := hI.blk.c0
  have hne : ¬ ((n : Int) = 0) := by omega
  have hHome := Lib.hid (home_any w q g n c T hI h0 hn (hashN k) hh)
  have hS := Seen.start (h := hashN) (T := T) h0 k
  have HS := Lib.hid hS
  have hBeh := Lib.hid (fun i hi => behind_any w q g n c T hI i hi hn)
  clear hI hT hS hh
  generalize hX : hashN k = X at hHome HS ⊢
  have HX := Lib.hid hX
  clear hX
  go_enter Try.func22, Try.ntmps22
  go_wp2_with fail
  refine (show Calls _ _ _ _ _ from hHome.out).mono ?_
  rintro e w1 ⟨rfl, rfl⟩
  clear hHome
  have HS : Hid (Seen hashN T n k 0 (X % n)) := by rw [← HX.out] at HS ⊢; exact HS
  generalize X % n = i0 at HS ⊢
  go_wp2_with fail
  go_loopw [8] (fun i wr => ∃ j d : Nat, j < n ∧ i = .int .i64 (j : Int) ∧ wr = w1 ∧ Hid (Seen hashN T n k d j)) (fun i _ => n - way n (hashN k % n) (intOf i).toNat)
  case atStart => exact ⟨i0, 0, HS.out.lt, rfl, rfl, HS⟩
  case round =>
    clear HS
    obtain ⟨j, d, hj, rfl, rfl, HS⟩ := hrel
    have t1 := HI.out.tab.c1 hj
    have t0 := HI.out.tab.c0 hj
    have t3 := HI.out.tab.c3 hj
    have hw := HS.out.way
    cases hful : (T j).full with
    | false =>
      rw [hful] at t3
      have HF := Lib.hid (HS.out.miss HT.out hful)
      clear hful hw t0 t1
      go_wp2_with fail
      go_ret2
      exact ⟨rfl, .inr ⟨HF.out, rfl⟩⟩
    | true =>
      rw [hful] at t3
      have hhash := HT.out.hash j hj hful
      generalize hK : (T j).key = K at t0 hhash
      by_cases hk : K = k
      · subst hk
        have HF := Lib.hid (show ∃ i, i < n ∧ (T i).full = true ∧ (T i).key = K ∧ Ending.returned (.tuple #[.int .i64 (j : Int), .bool true]) = .returned (.tuple #[.int .i64 (i : Int), .bool true]) from ⟨j, hj, hful, hK, rfl⟩)
        have hX := HX.out
        rw [hX] at hhash
        rw [hhash] at t1
        clear hful hw hhash hX hK
        go_wp2_with fail
        go_ret2
        exact ⟨rfl, .inl HF.out⟩
      · have hne2 : (K.toList == k.toList) = false := by
          rw [beq_eq_false_iff_ne]
          intro e
          rw [ByteArray.toList_eq, ByteArray.toList_eq] at e
          exact hk (ByteArray.ext (Array.toList_inj.1 e))
        have HN := Lib.hid (HS.out.next hf1 hf2 hful (by rw [hK]; exact hk))
        have hj2 := HN.out.lt
        have hw2 := HN.out.way
        have hd2 := HN.out.dn
        have HW := Lib.hid (show n - way n (hashN k % n) (nx n j 1) < n - way n (hashN k % n) j by omega)
        have hB := Lib.hid (hBeh.out j hj)
        clear hful hw hhash hK hk hw2 hd2 HS
        generalize nx n j 1 = j2 at HN hj2 HW hB
        generalize hZ : (T j).hash = Z at t1
        clear hZ
        by_cases hz : Z = (X : Int)
        · subst hz
          go_wp2_with fail
          refine (show Calls _ _ _ _ _ from hB.out).mono ?_
          rintro e w2 ⟨rfl, rfl⟩
          go_wp2_with fail
          go_roundw
          case rel => exact ⟨j2, d + 1, hj2, rfl, trivial, HN⟩
          case measure => simp only [intOf, Int.toNat_natCast]; exact HW.out
        · have hz' : (Z == (X : Int)) = false := by rw [beq_eq_false_iff_ne]; exact hz
          go_wp2_with fail
          refine (show Calls _ _ _ _ _ from hB.out).mono ?_
          rintro e w2 ⟨rfl, rfl⟩
          go_wp2_with fail
          go_roundw
          case rel => exact ⟨j2, d + 1, hj2, rfl, trivial, HN⟩
          case measure => simp only [intOf, Int.toNat_natCast]; exact HW.out

end Go.Proofs.Ytilcmlioofkkmaa
