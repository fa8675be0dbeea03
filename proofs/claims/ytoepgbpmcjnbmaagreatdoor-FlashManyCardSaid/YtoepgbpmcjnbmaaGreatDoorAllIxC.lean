/- Texts of one proof, behind one another: each says above its part what it proves and on which conditions. -/
import Derived.Test.YtoepgbpmcjnbmaaGreatDoorIdxLay
import Derived.Test.YtoepgbpmcjnbmaaGreatDoorAllIxA
import Derived.Sort.OwnSorted
import Derived.Lib.Hide
import Derived.Lib.SmallJoins
import Derived.WalkKit
import Derived.Test.YtoepgbpmcjnbmaaGreatDoorAllIxB
import Derived.Test.YtoepgbpmcjnbmaaGreatDoorAllBase
/-
  WHAT THE PROGRAM's INDEX TAKES OF Go's LIBRARY: strings.Clone, and slices.Sort of texts.
-/
section
namespace Go.Proofs.YtoepgbpmcjnbmaaGreatDoor
open Go Go.RowKit Go.Joins Go.Sort
set_option maxRecDepth 100000 in
theorem sclone_any (s : ByteArray) (w : World) (hs : s.size ≤ 281474976710656) :
    Calls Tryz.prog 87 #[.string s] w fun e w' => e = .returned (.string s) ∧ Keeps (fun _ => True) w w' := by
  have hC := Lib.hid (show Calls Tryz.prog 114 #[.string s] w fun e w' => e = .returned (.string s) ∧ Below w.heap.size w w' from Any.stringslite_Clone Tryz.cloneA s w hs)
  clear hs
  go_enter Tryz.func87, Tryz.ntmps87
  go_wp2_with fail
  refine (show Calls _ _ _ _ _ from hC.out).mono ?_
  rintro e w1 ⟨rfl, hb⟩
  have hk : Keeps (fun _ => True) w w1 := Keeps.of_below hb _
  go_wp2_with fail
  go_ret
  exact ⟨rfl, hk⟩
theorem enc_is (l : List ByteArray) : l.map Value.string = (l.map fun s => s.data.toList).map encStr := by
  rw [List.map_map]
  refine List.map_congr_left fun s _ => ?_
  show _ = encStr s.data.toList
  unfold encStr
  simp
theorem txt_map (l : List (List UInt8)) : (l.map txt).map Value.string = l.map encStr := by
  rw [List.map_map]
  rfl
theorem rising_of {l : List (List UInt8)} (h : l.Pairwise fun a b => a ≤ b) (hn : l.Nodup) : Rising (l.map txt) := by
  unfold Rising
  rw [List.pairwise_map]
  refine (h.and hn).imp fun {a b} hab => ?_
  show Op.bytesLess a b = true
  rw [bytesLess_eq, decide_eq_true_eq]
  rcases List.le_iff_lt_or_eq.1 hab.1 with h1 | h1
  · exact h1
  · exact absurd h1 hab.2
theorem sort_any (w : World) (base : Nat) (B : Option Addr) (c : Nat) (l : List ByteArray) (hnd : l.Nodup) (ho : w.ownsRow base 9 1 (.slice B l.length c) l.length (l.map Value.string)) (hl : l.length ≤ 68719476736) :
    Calls Tryz.prog 71 #[.slice B l.length c] w fun e w' => e = .returned (.tuple #[]) ∧ ∃ ks : List ByteArray, ks.Perm l ∧ Rising ks ∧ w'.ownsRow base 9 1 (.slice B l.length c) l.length (ks.map Value.string) ∧ Keeps (fun b => ∀ o, B ≠ some ⟨b, o, none⟩) w w' := by
  rcases Nat.eq_zero_or_pos l.length with h0 | h0
  · have hl0 := List.eq_nil_of_length_eq_zero h0
    subst hl0
    refine (show Calls Tryz.prog 71 #[.slice B 0 c] w fun e w' => e = .returned (.tuple #[]) ∧ w' = w from Any.slices_Sort_string_none Tryz.sortB B c w).mono ?_
    rintro e w' ⟨rfl, rfl⟩
    exact ⟨rfl, [], List.Perm.refl _, List.Pairwise.nil, ho, Keeps.refl _ _⟩
  · rcases ho.2 with ⟨-, h1⟩ | ⟨g, cap, cur, hv, hbase, hb, hcap, hmax, hsz, htake⟩
    · omega
    injection hv with e1 e2 e3
    subst e1 e3
    have hll : (l.map fun s => s.data.toList).length = l.length := by simp
    have hH : Holds encStr w g 0 (l.map fun s => s.data.toList).toArray := holds_of_block hb (by rw [hll, ← enc_is, ← htake, Nat.mul_one])
    have hlt : g < w.heap.size := (Array.getElem?_eq_some_iff.1 hb).1
    have h := Any.slices_Sort_string Tryz.sortB g 0 c (l.map fun s => s.data.toList) w hH hlt (by rw [hll]; omega)
    rw [hll] at h
    refine (show Calls Tryz.prog 71 #[.slice (some ⟨g, 0, none⟩) l.length c] w _ from h).mono ?_
    rintro e w' ⟨rfl, n, os, rfl⟩
    have hperm := List.mergeSort_perm (l.map fun s => s.data.toList) (fun x y => decide (x ≤ y))
    have hlen : ((l.map fun s => s.data.toList).mergeSort fun x y => decide (x ≤ y)).length = (l.map fun s => s.data.toList).length := hperm.length_eq
    have hsorted : ((l.map fun s => s.data.toList).mergeSort fun x y => decide (x ≤ y)).Pairwise fun a b => a ≤ b := by
      have := List.pairwise_mergeSort (le := fun x y : List UInt8 => decide (x ≤ y)) (by
        intro a b c h1 h2
        rw [decide_eq_true_eq] at h1 h2 ⊢
        exact List.le_trans h1 h2) (by
        intro a b
        rw [Bool.or_eq_true, decide_eq_true_eq, decide_eq_true_eq]
        exact List.le_total a b) (l.map fun s => s.data.toList)
      exact this.imp fun h => by simpa using h
    have hnd' : (l.map fun s => s.data.toList).Nodup := List.pairwise_map.2 (hnd.imp fun hab e => hab (ByteArray.ext (Array.toList_inj.1 e)))
    have hback : (l.map fun s => s.data.toList).map txt = l := by
      rw [List.map_map]
      refine (List.map_congr_left fun s _ => ?_).trans (List.map_id l)
      exact txt_data s
    refine ⟨rfl, ((l.map fun s => s.data.toList).mergeSort fun x y => decide (x ≤ y)).map txt, ?_, rising_of hsorted (hperm.nodup_iff.2 hnd'), ?_, ?_⟩
    · have := hperm.map txt
      rwa [hback] at this
    · rw [txt_map]
      have := ownsRow_sorted (w := w) (base := base) (g := g) (cap := c) (n := n) (os := os) hlen hbase hb (by rw [hll]; exact hcap) hmax hsz
      rwa [hll] at this
    · refine Keeps.of_grown (grownBy_sorted _) fun b hb _ hno => ?_
      injection hb with hb
      subst hb
      exact hno 0 rfl
end Go.Proofs.YtoepgbpmcjnbmaaGreatDoor
end
/-
  WHAT THE PROGRAM's INDEX KEEPS, in memory; New, Len, Get.
-/
section
namespace Go.Proofs.YtoepgbpmcjnbmaaGreatDoor
open Go Go.RowKit Go.Joins
def ixFoot (q : Nat) (A : Option Addr) : Foot := ⟨fun b => b = q ∨ A = some ⟨b, 0, none⟩, fun _ => False⟩
structure IxRepAt (w : World) (q : Nat) (A : Option Addr) (n : Nat) (T : Tab) (st : IxSt) : Prop where
  s : IxS w q A n st.length T
  ok : 0 < n → TabOk hashN T n st
  zero : n = 0 → st = [] ∧ A = none
  i : ∀ x ∈ st, i64 x.2
  n : n ≤ 8 * (st.length + 1)
def IxRep (w : World) (q : Nat) (F : Foot) (st : IxSt) : Prop := ∃ A n T, F = ixFoot q A ∧ IxRepAt w q A n T st
section
variable {w w' : World} {q n c : Nat} {A : Option Addr} {T : Tab} {st : IxSt} {F : Foot}
theorem IxRepAt.g (h : IxRepAt w q A n T st) (hn : 0 < n) : ∃ g, A = some ⟨g, 0, none⟩ ∧ IxAt w q g n st.length T := by
  obtain ⟨g, rfl, h1, h2⟩ := h.s.tab hn
  exact ⟨g, rfl, h.s.blk, h1, h2⟩
theorem IxRepAt.nd (h : IxRepAt w q A n T st) : (st.map (·.1)).Nodup := by
  rcases Nat.eq_zero_or_pos n with h0 | h0
  · rw [(h.zero h0).1]; exact List.nodup_nil
  · exact (h.ok h0).nd
theorem IxRepAt.keep (h : IxRepAt w q A n T st) (hk : Keeps (ixFoot q A).all w w') : IxRepAt w' q A n T st := by
  refine ⟨⟨h.s.blk.keep hk (.inl (.inl rfl)), fun h0 => ?_⟩, h.ok, h.zero, h.i, h.n⟩
  obtain ⟨g, rfl, h1, h2⟩ := h.s.tab h0
  exact ⟨g, rfl, h1.keep hk (.inl (.inr rfl)), h2⟩
theorem IxRep.keep (h : IxRep w q F st) (hk : Keeps F.all w w') : IxRep w' q F st := by
  obtain ⟨A, n, T, rfl, h⟩ := h
  exact ⟨A, n, T, rfl, h.keep hk⟩
theorem IxRep.lt (h : IxRep w q F st) : ∀ b, F.all b → b < w.heap.size := by
  obtain ⟨A, n, T, rfl, h⟩ := h
  rintro b ((rfl | hb) | hb)
  · exact h.s.blk.lt
  · rcases Nat.eq_zero_or_pos n with h0 | h0
    · rw [(h.zero h0).2] at hb; cases hb
    · obtain ⟨g, e, h1⟩ := h.g h0
      rw [e] at hb
      injection hb with hb
      injection hb with hb
      rw [← hb]; exact h1.tab.lt
  · exact hb.elim
theorem IxS.at_ (h : IxS w q A n c T) (hn : 0 < n) : ∃ g, A = some ⟨g, 0, none⟩ ∧ IxAt w q g n c T := by
  obtain ⟨g, rfl, h1, h2⟩ := h.tab hn
  exact ⟨g, rfl, h.blk, h1, h2⟩
end
set_option maxRecDepth 100000 in
set_option maxHeartbeats 1000000 in
theorem find_s (w : World) (q : Nat) (A : Option Addr) (n c : Nat) (T : Tab) (st : IxSt) (hI : IxS w q A n c T) (hT : 0 < n → TabOk hashN T n st) (hz : n = 0 → st = []) (hn : n ≤ 1099511627776) (k : ByteArray) :
    Calls Tryz.prog 64 #[.pointer (some ⟨q, 0, none⟩), .string k, .int .u64 ((hashN k : Nat) : Int)] w fun e w' => w' = w ∧
      ((∃ i, i < n ∧ (T i).full = true ∧ (T i).key = k ∧ e = .returned (.tuple #[.int .i64 (i : Int), .bool true])) ∨ (ixGet st k = none ∧ e = .returned (.tuple #[.int .i64 0, .bool false]))) := by
  rcases Nat.eq_zero_or_pos n with h0 | h0
  · subst h0
    have c0 := hI.blk.c0
    have hst := hz rfl
    subst hst
    clear hI hT hz
    go_enter Tryz.func64, Tryz.ntmps64
    go_wp2_with fail
    go_ret2
    exact ⟨rfl, .inr ⟨rfl, rfl⟩⟩
  · obtain ⟨g, rfl, hA⟩ := hI.at_ h0
    exact ixfind_any w q g n c T st hA (hT h0) hn k
set_option maxRecDepth 100000 in
set_option maxHeartbeats 1000000 in
theorem ixnew_any (w : World) : Calls Tryz.prog 32 #[] w fun e w' => ∃ (q : Nat) (F : Foot), e = .returned (.pointer (some ⟨q, 0, none⟩)) ∧ IxRep w' q F [] ∧ (∀ b, F.all b → w.heap.size ≤ b) ∧ Keeps (fun _ => True) w w' := by
  have hfin : IxRep (w.alloc (.cells #[.slice none 0 0, .int .i64 0] 113)) w.heap.size (ixFoot w.heap.size none) [] :=
    ⟨none, 0, fun _ => Sl.zero, rfl, ⟨heap_alloc_new w _, fun h => absurd h (by decide)⟩, fun h => absurd h (by decide), fun _ => ⟨rfl, rfl⟩, fun x hx => (by cases hx), by decide⟩
  have HF := Lib.hid hfin
  clear hfin
  go_enter Tryz.func32, Tryz.ntmps32
  go_wp2_with fail
  go_ret
  refine ⟨_, _, rfl, HF.out, fun b hb => ?_, (Keeps.refl _ w).alloc _⟩
  rcases hb with (rfl | hb) | hb
  · exact Nat.le_refl _
  · cases hb
  · exact hb.elim
theorem get_val {w : World} {q n : Nat} {A : Option Addr} {T : Tab} {st : IxSt} {k : ByteArray} {i : Nat} (hR : IxRepAt w q A n T st) (hi : i < n) (hf : (T i).full = true) (hk : (T i).key = k) : ixGet st k = some (T i).pos :=
  (hR.ok (by omega)).hit hi hf hk
set_option maxRecDepth 100000 in
set_option maxHeartbeats 1000000 in
theorem ixget_any (w : World) (q : Nat) (F : Foot) (st : IxSt) (hR : IxRep w q F st) (hl : st.length ≤ 32768) (k : ByteArray) (hk : k.size ≤ 1000000) :
    Calls Tryz.prog 38 #[.pointer (some ⟨q, 0, none⟩), .string k] w fun e w' => e = .returned (.tuple #[.int .i64 ((ixGet st k).getD 0), .bool (ixGet st k).isSome]) ∧ Keeps (fun _ => True) w w' := by
  obtain ⟨A, n, T, rfl, hR⟩ := hR
  have hn := hR.n
  have hn1 : n ≤ 1099511627776 := by omega
  obtain ⟨w1, hw1⟩ : ∃ w1, w.alloc (.cells #[.string k] 9) = w1 := ⟨_, rfl⟩
  have hk1 : Kp w w1 := by rw [← hw1]; exact (Keeps.refl _ w).alloc _
  have hR1 := hR.keep (hk1.mono fun _ _ _ => trivial)
  have hc : w1.cell? ⟨w.heap.size, 0, none⟩ = some (.string k) := by rw [← hw1]; exact (cell_of_block (heap_alloc_new w _) 0).trans rfl
  have HH := Lib.hid (hash_any k w.heap.size w1 hk hc)
  have HF := Lib.hid (find_s w1 q A n st.length T st hR1.s hR1.ok (fun h => (hR1.zero h).1) hn1 k)
  have HR := Lib.hid hR1
  have HW1 := Lib.hid hw1
  have HK1 := Lib.hid hk1
  clear hR hw1 hk1 hR1 hc hn
  generalize hX : hashN k = X at HH HF
  clear hX
  go_enter Tryz.func38, Tryz.ntmps38
  go_wp2_with fail
  rw [HW1.out]
  refine (show Calls _ _ _ _ _ from HH.out).mono ?_
  rintro e w2 ⟨rfl, rfl⟩
  go_wp2_with fail
  refine (show Calls _ _ _ _ _ from HF.out).mono ?_
  rintro e w3 ⟨rfl, (⟨i, hi, hf, hkey, rfl⟩ | ⟨hno, rfl⟩)⟩
  · obtain ⟨g, rfl, hA⟩ := HR.out.g (by omega)
    have c0 := hA.blk.c0
    have c2 := hA.tab.c2 hi
    have HV := Lib.hid (get_val HR.out hi hf hkey)
    clear hA hf hkey
    generalize (T i).pos = P at c2 HV
    go_wp2_with fail
    go_ret2
    rw [HV.out]
    exact ⟨rfl, HK1.out⟩
  · have HV := Lib.hid hno
    clear hno
    go_wp2_with fail
    go_ret2
    rw [HV.out]
    exact ⟨rfl, HK1.out⟩
end Go.Proofs.YtoepgbpmcjnbmaaGreatDoor
end
/-
  THE PROGRAM's INDEX: Put.
-/
section
namespace Go.Proofs.YtoepgbpmcjnbmaaGreatDoor
open Go Go.RowKit Go.Joins
section
variable {w w' W : World} {q g n c i : Nat} {T : Tab} {st : IxSt} {k : ByteArray} {p : Int} {A : Option Addr}
theorem TabAt.place (h : TabAt w g n T) (hi : i < n) (hf : (T i).full = true) (p : Int) : TabAt (w.setCell ⟨g, i * 4 + 2, none⟩ (.int .i64 p)) g n (setT T i ⟨(T i).key, (T i).hash, p, true⟩) := by
  refine ⟨fun m hm => ?_, fun m => ?_, by simpa using h.lt⟩
  · by_cases e : m = i * 4 + 2
    · subst e
      rw [World.cell?_setCell_same _ _ _ (h.c2 hi), tabV, if_neg (by omega), if_neg (by omega), if_pos (by omega), show (i * 4 + 2) / 4 = i by omega, setT_at]
    · rw [World.cell?_setCell_other _ _ _ _ (fun e2 => e (by injection e2 with _ e2; exact e2.symm)), h.cell m hm]
      unfold tabV
      by_cases e4 : m / 4 = i
      · rw [e4, setT_at]
        by_cases e0 : m % 4 = 0
        · rw [if_pos e0, if_pos e0]
        · by_cases e1 : m % 4 = 1
          · rw [if_neg e0, if_neg e0, if_pos e1, if_pos e1]
          · have e2 : ¬ m % 4 = 2 := by omega
            rw [if_neg e0, if_neg e0, if_neg e1, if_neg e1, if_neg e2, if_neg e2, hf]
      · rw [setT_ne _ _ e4]
  · rw [World.frozen?_setCell]; exact h.ice m
theorem ixPut_len (st : IxSt) (k : ByteArray) (p : Int) (v : Int) (hv : ixGet st k = some v) : (ixPut st k p).length = st.length := by
  have hl := congrArg List.length (ixPut_keys st k p (by rw [hv]; rfl))
  rwa [List.length_map, List.length_map] at hl
theorem step_of {B : Option Addr} (hk : Keeps (fun b => ¬ (ixFoot q A).M b) w w') (hB : ∀ g, B = some ⟨g, 0, none⟩ → A = some ⟨g, 0, none⟩ ∨ w.heap.size ≤ g) : Step (ixFoot q A) (ixFoot q B) w w' := by
  refine ⟨hk, ?_, fun b hb => hb.elim⟩
  rintro b (rfl | hb)
  · exact .inl (.inl rfl)
  · rcases hB b hb with h | h
    · exact .inl (.inr h)
    · exact .inr h
end
set_option maxRecDepth 100000 in
set_option maxHeartbeats 1000000 in
theorem ixput_any (w : World) (q : Nat) (F : Foot) (st : IxSt) (hR : IxRep w q F st) (hl : st.length ≤ 32768) (k : ByteArray) (p : Int) (hk : k.size ≤ 1000000) (hp : i64 p) :
    Calls Tryz.prog 63 #[.pointer (some ⟨q, 0, none⟩), .string k, .int .i64 p] w fun e w' => e = .returned (.int .i64 ((ixGet st k).getD 0)) ∧ ∃ F' : Foot, IxRep w' q F' (ixPut st k p) ∧ Step F F' w w' := by
  obtain ⟨A, n, T, rfl, hR⟩ := hR
  have hn := hR.n
  have hn1 : n ≤ 1099511627776 := by omega
  obtain ⟨w1, hw1⟩ : ∃ w1, w.alloc (.cells #[.string k] 9) = w1 := ⟨_, rfl⟩
  have hk1 : Kp w w1 := by rw [← hw1]; exact (Keeps.refl _ w).alloc _
  have hR1 := hR.keep (hk1.mono fun _ _ _ => trivial)
  have hc : w1.cell? ⟨w.heap.size, 0, none⟩ = some (.string k) := by rw [← hw1]; exact (cell_of_block (heap_alloc_new w _) 0).trans rfl
  have HH := Lib.hid (hash_any k w.heap.size w1 hk hc)
  have HF := Lib.hid (find_s w1 q A n st.length T st hR1.s hR1.ok (fun h => (hR1.zero h).1) hn1 k)
  have HFIT := Lib.hid (fit_any w1 q A n st.length T st hR1.s hR1.ok (fun h => (hR1.zero h).1) rfl hR1.i hn1 (by omega))
  have HR := Lib.hid hR1
  have HW1 := Lib.hid hw1
  have HK1 := Lib.hid hk1
  have HADD := Lib.hid (fun (w2 : World) (g n' : Nat) (T' : Tab) (hA : IxAt w2 q g n' st.length T') (hT : TabOk hashN T' n' st) (hno : ixGet st k = none) (h1 : st.length + 1 < n') (h2 : n' ≤ 8 * (st.length + 1)) => add_any w2 q g n' st.length T' st hA hT (by omega) (by omega) k p hno h1)
  have HP := Lib.hid hp
  have hks : k.size ≤ 281474976710656 := by omega
  clear hR hw1 hk1 hR1 hc hn hp
  generalize hX : hashN k = X at HH HF HADD
  clear hX
  go_enter Tryz.func63, Tryz.ntmps63
  go_wp2_with fail
  rw [HW1.out]
  refine (show Calls _ _ _ _ _ from HH.out).mono ?_
  rintro e w2 ⟨rfl, hw2⟩
  have hw2 := hw2.symm
  subst hw2
  go_wp2_with fail
  refine (show Calls _ _ _ _ _ from HF.out).mono ?_
  rintro e w3 ⟨hw3, (⟨i, hi, hf, hkey, rfl⟩ | ⟨hno, rfl⟩)⟩
  · have hw3 := hw3.symm
    subst hw3
    obtain ⟨g, rfl, hA⟩ := HR.out.g (by omega)
    have c0 := hA.blk.c0
    have c2 := hA.tab.c2 hi
    have tf := hA.tab.ice
    have hg := get_val HR.out hi hf hkey
    have HV := Lib.hid hg
    have hst : IxRepAt (w1.setCell ⟨g, i * 4 + 2, none⟩ (.int .i64 p)) q (some ⟨g, 0, none⟩) n (setT T i ⟨(T i).key, (T i).hash, p, true⟩) (ixPut st k p) := by
      have hlen := ixPut_len st k p _ hg
      refine ⟨⟨?_, fun _ => ⟨g, rfl, hA.tab.place hi hf p, hA.ne⟩⟩, fun h0 => ?_, fun h0 => by omega, ixPut_i64 HR.out.i HP.out, by rw [hlen]; exact HR.out.n⟩
      · rw [hlen]
        exact hA.blk.keep ((Keeps.refl (fun b => b ≠ g) w1).setCell (p := ⟨g, i * 4 + 2, none⟩) (.inr fun e => e rfl) _) (fun e => hA.ne e.symm)
      · have := (HR.out.ok h0).again hi hf p
        rwa [hkey] at this ⊢
    have HS := Lib.hid hst
    have HKK := Lib.hid (show Keeps (fun b => ¬ (ixFoot q (some ⟨g, 0, none⟩)).M b) w (w1.setCell ⟨g, i * 4 + 2, none⟩ (.int .i64 p)) from (HK1.out.mono fun _ _ _ => trivial).setCell (p := ⟨g, i * 4 + 2, none⟩) (.inr fun e => e (.inr rfl)) _)
    clear hA hf hkey hst hg
    generalize (T i).pos = P at c2 HV
    go_wp2_with fail
    go_ret
    rw [HV.out]
    exact ⟨rfl, _, ⟨_, _, _, rfl, HS.out⟩, step_of HKK.out fun g' hg' => .inl hg'⟩
  · have hw3 := hw3.symm
    subst hw3
    have HV := Lib.hid hno
    clear hno
    go_wp2_with fail
    refine (show Calls _ _ _ _ _ from HFIT.out).mono ?_
    rintro e w2 ⟨rfl, g, n', T', hA, hT, h1, h2, h3, hk2⟩
    have HA := Lib.hid hA
    have HT := Lib.hid hT
    have H3 := Lib.hid h3
    have HK2 := Lib.hid hk2
    clear hA hT h3 hk2 HFIT HF
    go_wp2_with fail
    refine (show Calls _ _ _ _ _ from sclone_any k w2 hks).mono ?_
    rintro e w3 ⟨rfl, hk3⟩
    have HA3 := Lib.hid (HA.out.keep hk3 trivial trivial)
    have HK3 := Lib.hid hk3
    clear hk3
    go_wp2_with fail
    refine (show Calls _ _ _ _ _ from HADD.out w3 g n' T' HA3.out HT.out HV.out h1 h2).mono ?_
    rintro e w4 ⟨rfl, T4, hA4, hT4, hk4⟩
    have HS := Lib.hid (show IxRepAt w4 q (some ⟨g, 0, none⟩) n' T4 (ixPut st k p) from by
      rw [ixPut_new HV.out]
      refine ⟨⟨?_, fun _ => ⟨g, rfl, hA4.tab, hA4.ne⟩⟩, fun _ => hT4, fun h0 => by omega, fun x hx => ?_, ?_⟩
      · rw [List.length_append]; exact hA4.blk
      · rcases List.mem_append.1 hx with h | h
        · exact HR.out.i x h
        · simp at h; subst h; exact HP.out
      · rw [List.length_append, List.length_cons, List.length_nil]; omega)
    have HSTEP := Lib.hid (show Step (ixFoot q A) (ixFoot q (some ⟨g, 0, none⟩)) w w4 from by
      refine step_of ?_ fun g' hg' => ?_
      · have k12 : Keeps (fun b => b ≠ q) w w2 := (HK1.out.mono fun _ _ _ => trivial).trans HK2.out
        have k13 : Keeps (fun b => b ≠ q) w w3 := k12.trans (HK3.out.mono fun _ _ _ => trivial)
        refine ⟨hk4.os.trans k13.os, hk4.tape.trans k13.tape, hk4.output.trans k13.output, Nat.le_trans k13.size hk4.size, fun b hb hlt => ?_⟩
        have hbq : b ≠ q := fun e => hb (.inl e)
        refine (hk4.block b ⟨hbq, fun e => ?_⟩ (Nat.lt_of_lt_of_le hlt k13.size)).trans (k13.block b hbq hlt)
        rcases H3.out with h | h
        · exact hb (.inr (by rw [e]; exact h))
        · have := HK1.out.size; omega
      · injection hg' with hg'
        injection hg' with hg'
        subst hg'
        rcases H3.out with h | h
        · exact .inl h
        · exact .inr (Nat.le_trans HK1.out.size h))
    clear hA4 hT4 hk4 HADD
    go_wp2_with fail
    go_ret
    rw [HV.out]
    exact ⟨rfl, _, ⟨_, _, _, rfl, HS.out⟩, HSTEP.out⟩
end Go.Proofs.YtoepgbpmcjnbmaaGreatDoor
end
/-
  THE PROGRAM's INDEX: Drop, Below, and what a nil one answers.
-/
section
namespace Go.Proofs.YtoepgbpmcjnbmaaGreatDoor
open Go Go.RowKit Go.Joins
theorem ixDrop_len {st : IxSt} {k : ByteArray} {v : Int} (hnd : (st.map (·.1)).Nodup) (hg : ixGet st k = some v) : (ixDrop st k).length + 1 = st.length := by
  induction st with
  | nil => cases hg
  | cons a st ih =>
    by_cases h : a.1 = k
    · obtain ⟨a1, a2⟩ := a
      have h : a1 = k := h
      subst h
      rw [ixDrop_cons hnd]; rfl
    · have hg' : ixGet st k = some v := by
        unfold ixGet at hg ⊢
        rw [List.find?_cons, isK_not.2 h] at hg
        exact hg
      rw [List.map_cons, List.nodup_cons] at hnd
      have e : ixDrop (a :: st) k = a :: ixDrop st k := by
        unfold ixDrop
        rw [List.filter_cons, isK_not.2 h]
        rfl
      rw [e, List.length_cons, ih hnd.2 hg', List.length_cons]
theorem ixBelow_same {st : IxSt} {p : Int} (h : (ixBelow st p).length = st.length) : ixBelow st p = st := by
  unfold ixBelow at h ⊢
  exact List.Sublist.eq_of_length List.filter_sublist h
theorem ixBelow_le (st : IxSt) (p : Int) : (ixBelow st p).length ≤ st.length := List.length_filter_le _ _
set_option maxRecDepth 100000 in
set_option maxHeartbeats 1000000 in
theorem ixdrop_any (w : World) (q : Nat) (F : Foot) (st : IxSt) (hR : IxRep w q F st) (hl : st.length ≤ 32768) (k : ByteArray) (hk : k.size ≤ 1000000) :
    Calls Tryz.prog 62 #[.pointer (some ⟨q, 0, none⟩), .string k] w fun e w' => e = .returned (.bool (ixGet st k).isSome) ∧ ∃ F' : Foot, IxRep w' q F' (ixDrop st k) ∧ Step F F' w w' := by
  obtain ⟨A, n, T, rfl, hR⟩ := hR
  have hn := hR.n
  have hn1 : n ≤ 1099511627776 := by omega
  obtain ⟨w1, hw1⟩ : ∃ w1, w.alloc (.cells #[.string k] 9) = w1 := ⟨_, rfl⟩
  have hk1 : Kp w w1 := by rw [← hw1]; exact (Keeps.refl _ w).alloc _
  have hR1 := hR.keep (hk1.mono fun _ _ _ => trivial)
  have hc : w1.cell? ⟨w.heap.size, 0, none⟩ = some (.string k) := by rw [← hw1]; exact (cell_of_block (heap_alloc_new w _) 0).trans rfl
  have HH := Lib.hid (hash_any k w.heap.size w1 hk hc)
  have HF := Lib.hid (find_s w1 q A n st.length T st hR1.s hR1.ok (fun h => (hR1.zero h).1) hn1 k)
  have HR := Lib.hid hR1
  have HW1 := Lib.hid hw1
  have HK1 := Lib.hid hk1
  clear hR hw1 hk1 hR1 hc
  generalize hX : hashN k = X at HH HF
  clear hX
  go_enter Tryz.func62, Tryz.ntmps62
  go_wp2_with fail
  rw [HW1.out]
  refine (show Calls _ _ _ _ _ from HH.out).mono ?_
  rintro e w2 ⟨rfl, hw2⟩
  have hw2 := hw2.symm
  subst hw2
  go_wp2_with fail
  refine (show Calls _ _ _ _ _ from HF.out).mono ?_
  rintro e w3 ⟨hw3, (⟨i, hi, hf, hkey, rfl⟩ | ⟨hno, rfl⟩)⟩
  · have hw3 := hw3.symm
    subst hw3
    obtain ⟨g, rfl, hA⟩ := HR.out.g (by omega)
    have hg := get_val HR.out hi hf hkey
    have HV := Lib.hid hg
    have hdl := ixDrop_len HR.out.nd hg
    obtain ⟨c, hc⟩ : ∃ c, (ixDrop st k).length = c := ⟨_, rfl⟩
    rw [hc] at hdl
    have HE := Lib.hid (empty_any w1 q g n c T st (by rw [hdl]; exact hA) (HR.out.ok (by omega)) hn1 (by omega) i hi hf)
    rw [hkey] at HE
    have HC := Lib.hid hc
    clear hA hf hkey hg hc
    go_wp2_with fail
    refine (show Calls _ _ _ _ _ from HE.out).mono ?_
    rintro e w4 ⟨rfl, T4, hA4, hT4, hk4⟩
    have HFIT := Lib.hid (fit_any w4 q (some ⟨g, 0, none⟩) n c T4 (ixDrop st k) hA4.s (fun _ => hT4) (fun h => by omega) HC.out.symm (ixDrop_i64 HR.out.i) hn1 (by omega))
    have HK4 := Lib.hid hk4
    clear hA4 hT4 hk4 HE
    go_wp2_with fail
    refine (show Calls _ _ _ _ _ from HFIT.out).mono ?_
    rintro e w5 ⟨rfl, g5, n5, T5, hA5, hT5, h1, h2, h3, hk5⟩
    have HS := Lib.hid (show IxRepAt w5 q (some ⟨g5, 0, none⟩) n5 T5 (ixDrop st k) from
      ⟨⟨by rw [HC.out]; exact hA5.blk, fun _ => ⟨g5, rfl, hA5.tab, hA5.ne⟩⟩, fun _ => hT5, fun h0 => by omega, ixDrop_i64 HR.out.i, by rw [HC.out]; omega⟩)
    have HSTEP := Lib.hid (show Step (ixFoot q (some ⟨g, 0, none⟩)) (ixFoot q (some ⟨g5, 0, none⟩)) w w5 from by
      refine step_of ?_ fun g' hg' => ?_
      · have k14 : Keeps (Off q g) w w4 := (HK1.out.mono fun _ _ _ => trivial).trans HK4.out
        have k15 : Keeps (Off q g) w w5 := k14.trans (hk5.mono fun _ _ h => h.1)
        exact k15.mono fun b _ hb => ⟨fun e => hb (.inl e), fun e => hb (.inr (by rw [e]))⟩
      · injection hg' with hg'
        injection hg' with hg'
        subst hg'
        rcases h3 with h | h
        · exact .inl h
        · exact .inr (Nat.le_trans (Nat.le_trans HK1.out.size HK4.out.size) h))
    clear hA5 hT5 h3 hk5 HFIT
    go_wp2_with fail
    go_ret
    rw [HV.out]
    exact ⟨rfl, _, ⟨_, _, _, rfl, HS.out⟩, HSTEP.out⟩
  · have hw3 := hw3.symm
    subst hw3
    have HV := Lib.hid hno
    clear hno
    go_wp2_with fail
    go_ret
    have e : ixDrop st k = st := by
      unfold ixDrop
      rw [List.filter_eq_self]
      intro x hx
      rw [isK_not.2 (ixGet_none.1 HV.out x hx)]
      rfl
    rw [HV.out, e]
    exact ⟨rfl, _, ⟨_, _, _, rfl, HR.out⟩, step_of (HK1.out.mono fun _ _ _ => trivial) fun g' hg' => .inl hg'⟩
set_option maxRecDepth 100000 in
set_option maxHeartbeats 1000000 in
theorem ixbelow_any (w : World) (q : Nat) (F : Foot) (st : IxSt) (hR : IxRep w q F st) (hl : st.length ≤ 32768) (p : Int) (_hp : i64 p) :
    Calls Tryz.prog 67 #[.pointer (some ⟨q, 0, none⟩), .int .i64 p] w fun e w' => e = .returned (.int .i64 ((st.length - (ixBelow st p).length : Nat) : Int)) ∧ ∃ F' : Foot, IxRep w' q F' (ixBelow st p) ∧ Step F F' w w' := by
  obtain ⟨A, n, T, rfl, hR⟩ := hR
  have hn := hR.n
  have hq := hR.s.blk.lt
  have HFR := Lib.hid (from_any w q A n st.length T hR.s (by omega) p)
  have hall : (∀ s ∈ fromL T p n, s.full = true ∧ s.hash = (hashN s.key : Int)) ∧ (((fromL T p n).map kv).map (·.1)).Nodup ∧ ((fromL T p n).map kv).Perm (ixBelow st p) := by
    rcases Nat.eq_zero_or_pos n with h0 | h0
    · subst h0
      rw [tab_nil, (hR.zero rfl).1]
      exact ⟨fun s hs => absurd hs (List.not_mem_nil), List.nodup_nil, List.Perm.refl _⟩
    · exact from_ok (hR.ok h0) p
  have hlen : (fromL T p n).length = (ixBelow st p).length := by
    have := hall.2.2.length_eq
    rwa [List.length_map] at this
  have hle := ixBelow_le st p
  have HLAY := Lib.hid (show ∀ (w1 : World) (B : Option Addr) (k : Nat), Kp w w1 → w1.ownsRow w.heap.size 122 4 (.slice B (fromL T p n).length k) (fromL T p n).length (slC (fromL T p n)) →
      Calls Tryz.prog 94 #[.pointer (some ⟨q, 0, none⟩), .slice B (fromL T p n).length k] w1 fun e w' => e = .returned (.tuple #[]) ∧ ∃ F' : Foot, IxRep w' q F' (ixBelow st p) ∧ Step (ixFoot q A) F' w w' from fun w1 B k hk ho => by
    refine (lay_any w1 q _ st.length (hR.s.blk.keep hk trivial) B k _ ((SlsAt.of_own ho rfl).mono fun b _ hb => ?_) (by omega) hall.1 hall.2.1).mono ?_
    · have := hb.1; omega
    · rintro e w' ⟨rfl, g', n', T', h1, h2, h3, h4, h5, h6⟩
      rw [hlen] at h1 h3 h4
      refine ⟨rfl, _, ⟨some ⟨g', 0, none⟩, n', T', rfl, ⟨⟨h1.blk, fun _ => ⟨g', rfl, h1.tab, h1.ne⟩⟩, fun _ => h2.of_perm hall.2.2, fun h0 => by omega, ixBelow_i64 hR.i, by omega⟩⟩, step_of ?_ fun g2 hg2 => ?_⟩
      · exact ((hk.mono fun _ _ _ => trivial).trans h6).mono fun b _ hb e => hb (.inl e)
      · injection hg2 with hg2
        injection hg2 with hg2
        subst hg2
        exact .inr (Nat.le_trans hk.size h5))
  have HSAME := Lib.hid (show (ixBelow st p).length = st.length → ∀ w1, Kp w w1 → ∃ F' : Foot, IxRep w1 q F' (ixBelow st p) ∧ Step (ixFoot q A) F' w w1 from fun h w1 hk => by
    rw [ixBelow_same h]
    exact ⟨_, ⟨A, n, T, rfl, hR.keep (hk.mono fun _ _ _ => trivial)⟩, step_of (hk.mono fun _ _ _ => trivial) fun g' hg' => .inl hg'⟩)
  have HBLK := Lib.hid hR.s.blk
  obtain ⟨m, hm⟩ : ∃ m, (ixBelow st p).length = m := ⟨_, rfl⟩
  obtain ⟨c, hc⟩ : ∃ c, st.length = c := ⟨_, rfl⟩
  rw [hlen] at HFR HLAY
  rw [hm] at HFR HLAY hle HSAME ⊢
  rw [hc] at hle hl HSAME HBLK ⊢
  have hcast : ((c - m : Nat) : Int) = (c : Int) - (m : Int) := by omega
  clear hR hall hlen hm hc hn
  go_enter Tryz.func67, Tryz.ntmps67
  go_wp2_with fail
  refine (show Calls _ _ _ _ _ from HFR.out).mono ?_
  rintro e w1 ⟨B, k, rfl, ho, hk⟩
  have c1 := (HBLK.out.keep hk trivial).c1
  have HK := Lib.hid hk
  have HO := Lib.hid ho
  clear hk ho
  by_cases hgt : m < c
  · have hd : decide ((0 : Int) < (c : Int) - (m : Int)) = true := by rw [decide_eq_true_eq]; omega
    go_wp2_with fail
    refine (show Calls _ _ _ _ _ from HLAY.out w1 B k HK.out HO.out).mono ?_
    rintro e w2 ⟨rfl, hfin⟩
    have HFIN := Lib.hid hfin
    clear hfin
    go_wp2_with fail
    go_ret
    rw [hcast]
    exact ⟨rfl, HFIN.out⟩
  · obtain rfl : m = c := by omega
    have hd : decide ((0 : Int) < (m : Int) - (m : Int)) = false := by rw [decide_eq_false_iff_not]; omega
    go_wp2_with fail
    go_ret
    rw [hcast]
    refine ⟨?_, HSAME.out trivial w1 HK.out⟩
    simp
section
variable (w : World) (k : ByteArray) (p : Int)
set_option maxRecDepth 100000
theorem ixput_nil : Calls Tryz.prog 63 #[.pointer none, .string k, .int .i64 p] w fun e w' => e = .returned (.int .i64 0) ∧ Keeps (fun _ => True) w w' := by
  go_enter Tryz.func63, Tryz.ntmps63
  go_wp2_with fail
  go_ret
  exact ⟨rfl, Keeps.refl _ _⟩
theorem ixget_nil : Calls Tryz.prog 38 #[.pointer none, .string k] w fun e w' => e = .returned (.tuple #[.int .i64 0, .bool false]) ∧ Keeps (fun _ => True) w w' := by
  go_enter Tryz.func38, Tryz.ntmps38
  go_wp2_with fail
  go_ret2
  exact ⟨rfl, Keeps.refl _ _⟩
theorem ixdrop_nil : Calls Tryz.prog 62 #[.pointer none, .string k] w fun e w' => e = .returned (.bool false) ∧ Keeps (fun _ => True) w w' := by
  go_enter Tryz.func62, Tryz.ntmps62
  go_wp2_with fail
  go_ret
  exact ⟨rfl, Keeps.refl _ _⟩
theorem ixbelow_nil : Calls Tryz.prog 67 #[.pointer none, .int .i64 p] w fun e w' => e = .returned (.int .i64 0) ∧ Keeps (fun _ => True) w w' := by
  go_enter Tryz.func67, Tryz.ntmps67
  go_wp2_with fail
  go_ret
  exact ⟨rfl, Keeps.refl _ _⟩
theorem ixkeys_nil : Calls Tryz.prog 45 #[.pointer none] w fun e w' => ∃ (A : Option Addr) (c : Nat), e = .returned (.slice A 0 c) ∧ Keeps (fun _ => True) w w' := by
  go_enter Tryz.func45, Tryz.ntmps45
  go_wp2_with fail
  go_ret
  exact ⟨none, 0, rfl, Keeps.refl _ _⟩
end
end Go.Proofs.YtoepgbpmcjnbmaaGreatDoor
end
/-
  THE PROGRAM's INDEX: Keys; and all of it: theIndex.
-/
section
namespace Go.Proofs.YtoepgbpmcjnbmaaGreatDoor
open Go Go.RowKit Go.Joins
theorem string_elem : Elem Tryz.prog 46 9 (.string ⟨#[]⟩) 1 16 := ⟨Tryz.underlying46, by kernel_rfl, rfl, by decide⟩
theorem list_make0 {P : Program} {w : World} {ops : Array Oper} {rest : List Oper} {o : Oper} {a : Act} {Q : Exit → Act → World → Prop} (hg : o.guard = none) (l c : Operand) (t : TypeId) (hop : o.op = Op.makeSlice t l c)
    {e : TypeId} {z : Value} {size bytes : Nat} (E : Elem P t e z size bytes) (kl kc : IntKind) (n : Nat) (hl : a.eval l = .int kl 0) (hc : a.eval c = .int kc (n : Int)) (b2 : bytes * n ≤ 281474976710656) (b3 : n ≤ maxLen)
    (hK : ∀ w', w'.ownsRow w.heap.size e size (.slice (some ⟨w.heap.size, 0, none⟩) 0 n) 0 [] → w.grownBy w' none → wpList P ops Q rest (a.put o.dst (.slice (some ⟨w.heap.size, 0, none⟩) 0 n)) w') : wpList P ops Q (o :: rest) a w := by
  obtain ⟨i, hi, hz0, hz1, hz2⟩ := info_parts E.info
  subst hz2
  exact wpList_make_own w hg l c t hop w.heap.size e i z size E.und hi hz0 hz1 kl kc _ n hl hc rfl b2 b3 (Nat.le_refl _) hK
theorem src_text (W : World) (s : ByteArray) : Src Tryz.prog 1 46 (.slice (some ⟨W.heap.size, 0, none⟩) 1 1) 1 [.string s] (W.alloc (.cells #[.string s] 9)) :=
  src_one Tryz.underlying46 W (.string s) 9 rfl W.heap.size rfl 1
def keysC (L : List Sl) (j : Nat) : List Value := (L.take j).map fun s => Value.string s.key
set_option maxRecDepth 100000 in
set_option maxHeartbeats 1000000 in
theorem ixkeys_any (w : World) (q : Nat) (F : Foot) (st : IxSt) (hR : IxRep w q F st) (hl : st.length ≤ 32768) :
    Calls Tryz.prog 45 #[.pointer (some ⟨q, 0, none⟩)] w fun e w' => ∃ (A : Option Addr) (c : Nat) (ks : List ByteArray), e = .returned (.slice A st.length c) ∧ ks.Perm (st.map (·.1)) ∧ Rising ks ∧ st.length ≤ c ∧ c ≤ maxLen ∧
      Row w' A (fun b => w.heap.size ≤ b ∧ b < w'.heap.size) (ks.map Value.string) ∧ Keeps (fun _ => True) w w' := by
  obtain ⟨A, n, T, rfl, hR⟩ := hR
  have hn := hR.n
  have hall : ((fromL T (-9223372036854775808) n).map kv).Perm st := by
    rcases Nat.eq_zero_or_pos n with h0 | h0
    · subst h0
      rw [tab_nil, (hR.zero rfl).1]
      exact List.Perm.refl _
    · have h := (from_ok (hR.ok h0) (-9223372036854775808)).2.2
      rwa [below_all fun x hx => (hR.i x hx).1] at h
  have hlen : (fromL T (-9223372036854775808) n).length = st.length := by
    have := hall.length_eq
    rwa [List.length_map] at this
  have hnd := hR.nd
  have hperm : ((fromL T (-9223372036854775808) n).map Sl.key).Perm (st.map (·.1)) := by
    have := hall.map (·.1)
    rwa [List.map_map] at this
  have HFR := Lib.hid (fun (w1 : World) (h : Kp w w1) => from_any w1 q A n st.length T (hR.s.keep h) (by omega) (-9223372036854775808))
  have c1 := hR.s.blk.c1
  generalize fromL T (-9223372036854775808) n = L at *
  have HP := Lib.hid hperm
  have HL := Lib.hid hlen
  have HND := Lib.hid ((hperm.nodup_iff).2 hnd)
  obtain ⟨c, hc⟩ : ∃ c, st.length = c := ⟨_, rfl⟩
  rw [hc] at c1 hl HL ⊢
  rw [HL.out] at HFR
  clear hR hall hlen hnd hperm hc hn
  go_enter Tryz.func45, Tryz.ntmps45
  go_wp2_with (refine list_make0 rfl (.const (.int .i64 0)) (.tmp 11) 46 rfl string_elem .i64 .i64 c rfl rfl (by omega) (by unfold maxLen; omega) ?_)
  intro w1 hown hg
  have hk1 : Kp w w1 := Keeps.of_grown hg fun _ h => by cases h
  have HK1 := Lib.hid hk1
  have hsz1 : w.heap.size < w1.heap.size := (hown.lt w.heap.size rfl).2
  have HO1 := Lib.hid hown
  have HF1 := Lib.hid (HFR.out w1 hk1)
  clear hown hg hk1 HFR
  go_wp2_with fail
  refine (show Calls _ _ _ _ _ from HF1.out).mono ?_
  rintro e w2 ⟨B, k, rfl, ho, hk2⟩
  have HS2 := Lib.hid ((SlsAt.of_own ho HL.out.symm).mono (G := fun b => w1.heap.size ≤ b ∧ b < w2.heap.size) fun b _ h => h)
  have HO2 := Lib.hid (hk2.own HO1.out fun _ _ => trivial)
  have HK2 := Lib.hid (HK1.out.trans hk2)
  have hsz2 := hk2.size
  clear ho hk2 HO1 HK1 HF1
  go_wp2_with fail
  go_loopw [3, 16] (fun v i wr => ∃ (j : Nat) (A1 : Option Addr) (cc : Nat), j ≤ c ∧ i = .int .i64 (j : Int) ∧ v = .slice A1 j cc ∧ Hid (wr.ownsRow w.heap.size 9 1 v j (keysC L j)) ∧ Hid (∀ b, v.ownBlock = some b → b < w1.heap.size ∨ w2.heap.size ≤ b) ∧ Hid (Kp w wr) ∧ Hid (Keeps (fun b => w1.heap.size ≤ b ∧ b < w2.heap.size) w2 wr)) (fun _ i _ => c - (intOf i).toNat)
  case atStart => exact ⟨0, some ⟨w.heap.size, 0, none⟩, c, Nat.zero_le _, rfl, rfl, HO2, Lib.hid (fun b hb => by
    have : b = w.heap.size := by simpa [Value.ownBlock] using hb.symm
    omega), HK2, Lib.hid (Keeps.refl _ _)⟩
  case round =>
    clear HO2
    obtain ⟨j, A1, cc, hj, rfl, rfl, HO, HB, HK, HKW⟩ := hrel
    by_cases hjc : j < c
    · have hjc' : (j : Int) < (c : Int) := by omega
      have hjl : j < L.length := by rw [HL.out]; exact hjc
      have HSr := Lib.hid (HS2.out.keep HKW.out)
      obtain ⟨b, o, rfl, hbw, t0, t1, t2, t3⟩ := HSr.out j hjl
      have HT := Lib.hid (show keysC L (j + 1) = keysC L j ++ [Value.string L[j].key] from by
        unfold keysC
        rw [List.take_succ_eq_append_getElem hjl, List.map_append]; rfl)
      generalize L[j].key = K at t0 HT
      generalize L[j].hash = Z at t1
      generalize L[j].pos = P at t2
      generalize L[j].full = U at t3
      have hblt : b < wr.heap.size := World.block_lt_of_cell? wr _ t0
      have hsrc := src_text (wr.alloc (.cells #[.string K, .int .u64 Z, .int .i64 P, .bool U] 122)) K
      rw [show (wr.alloc (.cells #[.string K, .int .u64 Z, .int .i64 P, .bool U] 122)).heap.size = wr.heap.size + 1 by simp] at hsrc
      have HSRC := Lib.hid hsrc
      have hszr := HK.out.size
      have hszw := HKW.out.size
      clear hsrc HSr
      go_wp2_with (at_builtin; refine string_elem.list_append rfl (.tmp 20) (.tmp 23) _ rfl rfl ((HO.out.alloc _).alloc _) rfl HSRC.out ?c3 ?c4 ?c5 ?_)
      case c3 => unfold maxLen; omega
      case c4 => omega
      case c5 => simp; omega
      intro v3 w3 ho3 hg3 hb3
      have HK3 := Lib.hid (show Kp w w3 from ((HK.out.alloc _).alloc _).grown hg3 fun j hj => (HO.out.lt j hj).1)
      have HKW3 := Lib.hid (show Keeps (fun b => w1.heap.size ≤ b ∧ b < w2.heap.size) w2 w3 from by
        refine ((HKW.out.alloc _).alloc _).trans (Keeps.of_grown hg3 fun b hb _ hh => ?_)
        rcases HB.out b hb with h | h <;> omega)
      have HO3 := Lib.hid (show w3.ownsRow w.heap.size 9 1 v3 (j + 1) (keysC L (j + 1)) from by rw [HT.out]; exact ho3)
      have HB3 := Lib.hid (show ∀ b, v3.ownBlock = some b → b < w1.heap.size ∨ w2.heap.size ≤ b from fun b hb => by
        rcases hb3 with h | h
        · exact HB.out b (by rw [← h]; exact hb)
        · rw [h] at hb
          injection hb with hb
          (try simp at hb)
          omega)
      obtain ⟨g3, c3, rfl, -, -⟩ := ho3.form (by omega)
      clear ho3 hg3 hb3 HSRC HO HB HK HKW
      go_wp2_with fail
      go_roundw
      case rel => exact ⟨j + 1, some ⟨g3, 0, none⟩, c3, hjc, by go_num, rfl, HO3, HB3, HK3, HKW3⟩
      case measure => simp [intOf]; omega
    · obtain rfl : c = j := by omega
      have hjc' : ¬ (c : Int) < (c : Int) := by omega
      have hLt : L.take c = L := by rw [← HL.out]; exact List.take_length
      have hm : keysC L c = (L.map Sl.key).map Value.string := by unfold keysC; rw [hLt, List.map_map]; rfl
      have hll : (L.map Sl.key).length = c := by rw [List.length_map]; exact HL.out
      have hSORT := sort_any wr w.heap.size A1 cc (L.map Sl.key) HND.out (by rw [hll, ← hm]; exact HO.out) (by omega)
      rw [hll] at hSORT
      have HSORT := Lib.hid hSORT
      have hcap := own_cap HO.out
      have HCAP := Lib.hid hcap
      clear hLt hm hll hSORT hcap
      go_wp2_with fail
      refine (show Calls _ _ _ _ _ from HSORT.out).mono ?_
      rintro e w4 ⟨rfl, ks, hks, hrise, ho4, hk4⟩
      have HFIN := Lib.hid (show Kp w w4 from by
        refine ⟨hk4.os.trans HK.out.os, hk4.tape.trans HK.out.tape, hk4.output.trans HK.out.output, Nat.le_trans HK.out.size hk4.size, fun b _ hlt => ?_⟩
        refine (hk4.block b (fun o ho => ?_) (Nat.lt_of_lt_of_le hlt HK.out.size)).trans (HK.out.block b trivial hlt)
        rcases Nat.eq_zero_or_pos c with h0 | h0
        · subst h0
          rcases HO.out.2 with ⟨h1, -⟩ | ⟨g, cap, cur, hv, hb, -⟩
          · injection h1 with h1
            rw [h1] at ho; cases ho
          · injection hv with hv
            rw [hv] at ho
            injection ho with ho
            injection ho with ho
            omega
        · obtain ⟨g, cap, hv, hb, -⟩ := HO.out.form h0
          injection hv with hv
          rw [hv] at ho
          injection ho with ho
          injection ho with ho
          omega)
      have hkl : ks.length = c := by rw [hks.length_eq, List.length_map]; exact HL.out
      have HROW := Lib.hid (show Row w4 A1 (fun b => w.heap.size ≤ b ∧ b < w4.heap.size) (ks.map Value.string) from by
        have h := ho4
        have e : (ks.map Value.string).length = c := by rw [List.length_map]; exact hkl
        rw [← e] at h
        exact Row.of_own h)
      have HKS := Lib.hid (hks.trans HP.out)
      have HRI := Lib.hid hrise
      clear hks hrise ho4 hk4 hkl HSORT
      go_wp2_with fail
      go_ret
      exact ⟨A1, cc, ks, rfl, HKS.out, HRI.out, HCAP.out.1, HCAP.out.2.1, HROW.out, HFIN.out⟩
def theIndex : IndexOK where
  T := fun _ => True
  tk := fun _ _ => trivial
  rep := IxRep
  lt := fun h => h.lt
  keep := fun h hk => h.keep hk
  new := fun w _ => ixnew_any w
  put := fun _ w q F st hR _ _ _ hl k p hk hp => ixput_any w q F st hR hl k p hk hp
  get := fun w q F st hR _ hl k hk => ixget_any w q F st hR hl k hk
  drop := fun _ w q F st hR _ _ _ hl k hk => ixdrop_any w q F st hR hl k hk
  below := fun _ w q F st hR _ _ _ hl p hp => ixbelow_any w q F st hR hl p hp
  keys := fun w q F st hR _ hl => ixkeys_any w q F st hR hl
  putNil := ixput_nil
  getNil := ixget_nil
  dropNil := ixdrop_nil
  belowNil := ixbelow_nil
  keysNil := ixkeys_nil
end Go.Proofs.YtoepgbpmcjnbmaaGreatDoor
end
