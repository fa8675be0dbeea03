/-
  THE LANDED RIGHTS: batches: kill, batchOf.
-/
import Derived.Test.YtoegdfiehjabjaaTkMem
import Derived.Test.YtoegdfiehjabjaaTkLay
import Derived.OpenShut
import Derived.StillTailTactics
import Derived.Deep.CutRange
namespace Go.Proofs.Ytoegdfiehjabjaa
open Go Go.RowKit Go.Joins Go.Maps Go.ChangeShapes Go.WideShapes Go.ChangeAt

set_option maxRecDepth 100000 in
theorem tkclone_any (s : ByteArray) (w : World) (hs : s.size ≤ 281474976710656) :
    Calls Try.prog 22 #[.string s] w fun e w' => e = .returned (.string s) ∧ Keeps (fun _ => True) w w' := by
  have hC := Lib.hid (show Calls Try.prog 23 #[.string s] w fun e w' => e = .returned (.string s) ∧ Below w.heap.size w w' from Any.stringslite_Clone Try.cloneT s w hs)
  clear hs
  go_enter Try.func22, Try.ntmps22
  go_wp2_with fail
  refine (show Calls _ _ _ _ _ from hC.out).mono ?_
  rintro e w1 ⟨rfl, hb⟩
  have hk : Keeps (fun _ => True) w w1 := Keeps.of_below hb _
  go_wp2_with fail
  go_ret
  exact ⟨rfl, hk⟩

theorem bkill_any (w : World) (b : Nat) (k : ByteArray) (n : Int) (d : Bool) (h : BtBlk w b k n d) :
    Calls Try.prog 21 #[.pointer (some ⟨b, 0, none⟩)] w fun e w' => e = .returned (.int .i64 n) ∧ w' = w.setCell ⟨b, 2, none⟩ (.bool true) := by
  have c1 := h.c1
  have c2 := h.c2
  have f2 := h.f2
  clear h
  go_enter Try.func21, Try.ntmps21
  go_wp2_with fail
  go_ret
  exact ⟨rfl, rfl⟩

theorem str_keyed : Keyed Try.prog 9 := string_keyed Try.underlying9
theorem num_keyed : Keyed Try.prog 2 := int_keyed Try.underlying2
theorem str_key (k : ByteArray) (h : k.size ≤ 1000000) : keyOf Try.prog 9 (.string k) = some (.string k.data.toList) := WideMaps.keyOf_string_mk Try.underlying9 (by unfold maxLen; omega)
theorem num_wf (z : Int) (h : -9223372036854775808 ≤ z) (h' : z < 9223372036854775808) : (Lit.int .i64 z).wf = true := by simp [Lit.wf, IntKind.min, IntKind.max, IntKind.signed, IntKind.bits]; omega
theorem num_key (z : Int) (h : -9223372036854775808 ≤ z) (h' : z < 9223372036854775808) : keyOf Try.prog 2 (.int .i64 z) = some (.int .i64 z) := keyOf_int_mk Try.underlying2 (num_wf z h h')
theorem bat_zero (w : World) : (zeroValue 51).run Try.prog w = .ok (.pointer none) w := by kernel_rfl

theorem map_some (m : Nat) (w : World) : (binOp .eql 47 (.map (some m)) (.map none)).run Try.prog w = .ok (.bool false) w := by kernel_rfl
theorem map_none (w : World) : (binOp .eql 47 (.map none) (.map none)).run Try.prog w = .ok (.bool true) w := by kernel_rfl

theorem batchHit_any (w : World) (t : Nat) (n : Int) (mo ml nl b : Nat) (gl : Lit → Option Value) (k : ByteArray) (hb : TkBlk w t n (some mo) (some ml)) (hm : MapIs Try.prog 9 w ml nl gl)
    (hg : gl (.string k.data.toList) = some (.pointer (some ⟨b, 0, none⟩))) (hk : k.size ≤ 1000000) :
    Calls Try.prog 20 #[.pointer (some ⟨t, 0, none⟩), .string k] w fun e w' => e = .returned (.pointer (some ⟨b, 0, none⟩)) ∧ w' = w := by
  have c1 := hb.c1
  have c2 := hb.c2
  have hlook := hm.look2 (t := 48) str_keyed Try.underlying48 (bat_zero w) (str_key k hk)
  rw [hg] at hlook
  simp only [Option.getD_some, Option.isSome_some] at hlook
  have hnn := map_some mo w
  clear hb hm hg hk
  go_enter Try.func20, Try.ntmps20
  go_wp2_with fail
  go_ret
  exact ⟨rfl, rfl⟩

theorem batchNew_any (w : World) (t : Nat) (n : Int) (mo ml nl : Nat) (gl : Lit → Option Value) (k : ByteArray) (hb : TkBlk w t n (some mo) (some ml)) (hm : MapIs Try.prog 9 w ml nl gl)
    (hg : gl (.string k.data.toList) = none) (hk : k.size ≤ 1000000) (hnl : nl ≤ 100000) :
    Calls Try.prog 20 #[.pointer (some ⟨t, 0, none⟩), .string k] w fun e w' => ∃ b, e = .returned (.pointer (some ⟨b, 0, none⟩)) ∧ w.heap.size ≤ b ∧ BtBlk w' b k 0 false ∧
      MapIs Try.prog 9 w' ml (nl + 1) (mput gl (.string k.data.toList) (.pointer (some ⟨b, 0, none⟩))) ∧ Keeps (fun x => x ≠ ml) w w' := by
  have c1 := hb.c1
  have c2 := hb.c2
  have hlook := hm.look2 (t := 48) str_keyed Try.underlying48 (bat_zero w) (str_key k hk)
  rw [hg] at hlook
  simp only [Option.getD_none, Option.isSome_none] at hlook
  have hnn := map_some mo w
  have HC := Lib.hid (tkclone_any k w (by omega))
  have HM := Lib.hid hm
  have HK := Lib.hid (str_key k hk)
  have hml := hm.lt
  clear hb hm hg hk
  go_enter Try.func20, Try.ntmps20
  go_wp2_with fail
  refine (show Calls _ _ _ _ _ from HC.out).mono ?_
  rintro e w1 ⟨rfl, hk1⟩
  replace c2 := hk1.cell c2 trivial
  have HK1 := Lib.hid hk1
  have hs1 := hk1.size
  clear hk1 c1 hlook HC hnn
  go_wp2_with fail
  obtain ⟨w2, hw2⟩ : ∃ w2, w1.alloc (.cells #[.string k, .int .i64 0, .bool false] 54) = w2 := ⟨_, rfl⟩
  have hB : BtBlk w2 w1.heap.size k 0 false := by rw [← hw2]; exact heap_alloc_new w1 _
  have hk2 : Kp w1 w2 := by rw [← hw2]; exact (Keeps.refl _ _).alloc _
  have hge := HK1.out.size
  rw [hw2]
  replace c2 := hk2.cell c2 trivial
  have d0 := hB.c0
  have HM2 := Lib.hid ((HM.out.keep HK1.out trivial).keep hk2 trivial)
  have HK2 := Lib.hid (HK1.out.trans hk2)
  clear hw2 hk2 HM HK1 hs1
  generalize w1.heap.size = nb at *
  have HB := Lib.hid hB
  have HGE := Lib.hid hge
  clear hB hge
  go_still_tail 9, (by kernel_rfl)
  change wpList _ _ _ _ _ w2.drew
  go_wp2_with ((refine (HM2.out.keep ((Keeps.refl (fun _ => True) w2).drew) trivial).list_put rfl (.tmp 38) (.tmp 42) (.tmp 43) rfl str_keyed Try.underlying48 rfl ?h7 (.string k) (.pointer (some ⟨nb, 0, none⟩)) (.string k.data.toList) rfl rfl HK.out trivial ?_))
  case h7 => unfold maxLen; omega
  intro w3 hm3 hg3
  have hk3 : Keeps (fun x => x ≠ ml) w2 w3 := ((Keeps.refl _ w2).drew).trans (Keeps.of_grown hg3 fun b e _ hn => by cases e; exact hn rfl)
  have HK3 := Lib.hid hk3
  have HM3 := Lib.hid hm3
  clear hm3 hg3 hk3
  go_wp2_with fail
  go_ret
  refine ⟨nb, rfl, HGE.out, HB.out.keep HK3.out (HM2.out.not_cells HB.out), HM3.out, (HK2.out.mono fun _ _ _ => trivial).trans HK3.out⟩

theorem batchZero_any (w : World) (t : Nat) (n : Int) (k : ByteArray) (hb : TkBlk w t n none none) (hk : k.size ≤ 1000000) :
    Calls Try.prog 20 #[.pointer (some ⟨t, 0, none⟩), .string k] w fun e w' => ∃ b mo ml, e = .returned (.pointer (some ⟨b, 0, none⟩)) ∧ w.heap.size ≤ b ∧ w.heap.size ≤ mo ∧ w.heap.size ≤ ml ∧ mo ≠ ml ∧ BtBlk w' b k 0 false ∧
      TkBlk w' t n (some mo) (some ml) ∧ MapIs Try.prog 2 w' mo 0 (fun _ => none) ∧
      MapIs Try.prog 9 w' ml 1 (mput (fun _ => none) (.string k.data.toList) (.pointer (some ⟨b, 0, none⟩))) ∧ Keeps (fun x => x ≠ t) w w' := by
  have c1 := hb.c1
  have c2 := hb.c2
  have f1 := hb.f1
  have f2 := hb.f2
  have hlt := hb.lt
  have HC := Lib.hid (fun w => tkclone_any k w (by omega))
  have HBT := Lib.hid hb
  have HK := Lib.hid (str_key k hk)
  have hnn := map_none w
  have hmm := @run_makeMap Try.prog
  clear hb hk
  go_enter Try.func20, Try.ntmps20
  go_upto_region 3 with fail
  obtain ⟨wz, hwz⟩ : ∃ wz, (w.setCell ⟨t, 1, none⟩ (.map (some w.heap.size))).setCell ⟨t, 2, none⟩ (.map (some (w.heap.size + 1))) = wz := ⟨_, rfl⟩
  have hsz : wz.heap.size = w.heap.size := by rw [← hwz]; simp
  have hbz : TkBlk wz t n (some w.heap.size) (some (w.heap.size + 1)) := by rw [← hwz]; exact (HBT.out.set1 _).set2 _
  have hkz : Keeps (fun x => x ≠ t) w wz := by rw [← hwz]; exact ((Keeps.refl _ _).setCell (.inr fun h => h rfl) _).setCell (.inr fun h => h rfl) _
  rw [hwz]
  obtain ⟨w0, hw0⟩ : ∃ w0, (wz.alloc (.map #[] 0)).alloc (.map #[] 0) = w0 := ⟨_, rfl⟩
  rw [hw0]
  have hk0 : Kp wz w0 := by rw [← hw0]; exact ((Keeps.refl _ _).alloc _).alloc _
  have hb0 := hbz.keep hk0 trivial
  have hm1 : MapIs Try.prog 2 w0 w.heap.size 0 (fun _ => none) := by
    have h1 := MapIs.made Try.prog 2 wz
    rw [hsz] at h1
    rw [← hw0]; exact h1.keep (F := fun _ => True) ((Keeps.refl _ _).alloc _) trivial
  have hm2 : MapIs Try.prog 9 w0 (w.heap.size + 1) 0 (fun _ => none) := by
    have h1 := MapIs.made Try.prog 9 (wz.alloc (.map #[] 0))
    rw [show (wz.alloc (.map #[] 0)).heap.size = w.heap.size + 1 by simp [hsz]] at h1
    rw [← hw0]; exact h1
  have hs0 : w0.heap.size = w.heap.size + 2 := by rw [← hw0]; simp [hsz]
  have hlook := hm2.look2 (t := 48) str_keyed Try.underlying48 (bat_zero w0) HK.out
  simp only [Option.getD_none, Option.isSome_none] at hlook
  have HK0 := Lib.hid (hkz.trans (hk0.mono fun _ _ _ => trivial))
  replace c2 := hb0.c2
  have HB0 := Lib.hid hb0
  have HM1 := Lib.hid hm1
  have HM2 := Lib.hid hm2
  have HS0 := Lib.hid hs0
  clear hwz hsz hbz hkz hw0 hk0 hb0 hm1 hm2 c1 f1 f2 hnn hmm HBT wz hs0
  have hne : w.heap.size ≠ w.heap.size + 1 := by omega
  obtain ⟨mo, hmo⟩ : ∃ mo, mo = w.heap.size := ⟨_, rfl⟩
  obtain ⟨ml, hml⟩ : ∃ ml, ml = w.heap.size + 1 := ⟨_, rfl⟩
  rw [← hml] at hne HB0 HM2 c2 hlook
  rw [← hml]
  rw [← hmo] at hne HB0 HM1
  rw [← hmo]
  have HMO := Lib.hid (show w.heap.size ≤ mo ∧ w.heap.size ≤ ml ∧ ml < w0.heap.size from by rw [HS0.out]; omega)
  clear hmo hml HS0
  go_wp2_with fail
  refine (show Calls _ _ _ _ _ from HC.out _).mono ?_
  rintro e w1 ⟨rfl, hk1⟩
  replace c2 := hk1.cell c2 trivial
  have HK1 := Lib.hid hk1
  have hs1 := hk1.size
  clear hk1 hlook HC
  go_wp2_with fail
  obtain ⟨w2, hw2⟩ : ∃ w2, w1.alloc (.cells #[.string k, .int .i64 0, .bool false] 54) = w2 := ⟨_, rfl⟩
  have hB : BtBlk w2 w1.heap.size k 0 false := by rw [← hw2]; exact heap_alloc_new w1 _
  have hk2 : Kp w1 w2 := by rw [← hw2]; exact (Keeps.refl _ _).alloc _
  have hge : w.heap.size ≤ w1.heap.size := Nat.le_trans HK0.out.size HK1.out.size
  rw [hw2]
  replace c2 := hk2.cell c2 trivial
  have d0 := hB.c0
  have HK2 := Lib.hid (HK1.out.trans hk2)
  have HM3 := Lib.hid (HM2.out.keep HK2.out trivial)
  clear hw2 hk2 HK1 hs1 HM2
  generalize w1.heap.size = nb at *
  have HB := Lib.hid hB
  have HGE := Lib.hid hge
  clear hB hge
  go_still_tail 9, (by kernel_rfl)
  change wpList _ _ _ _ _ w2.drew
  go_wp2_with ((refine (HM3.out.keep ((Keeps.refl (fun _ => True) w2).drew) trivial).list_put rfl (.tmp 38) (.tmp 42) (.tmp 43) rfl str_keyed Try.underlying48 rfl ?h7 (.string k) (.pointer (some ⟨nb, 0, none⟩)) (.string k.data.toList) rfl rfl HK.out trivial ?_))
  case h7 => unfold maxLen; omega
  intro w3 hm3 hg3
  have hk3 : Keeps (fun x => x ≠ ml) w2 w3 := ((Keeps.refl _ w2).drew).trans (Keeps.of_grown hg3 fun b e _ hn => by cases e; exact hn rfl)
  have HK3 := Lib.hid hk3
  have HM4 := Lib.hid hm3
  clear hm3 hg3 hk3
  go_wp2_with fail
  go_ret
  refine ⟨nb, mo, ml, rfl, HGE.out, HMO.out.1, HMO.out.2.1, hne, HB.out.keep HK3.out (HM3.out.not_cells HB.out), (HB0.out.keep HK2.out trivial).keep HK3.out (by have := HMO.out; omega),
    (HM1.out.keep HK2.out trivial).keep HK3.out hne, HM4.out, ?_⟩
  have h1 : Keeps (fun x => x ≠ t ∧ x ≠ ml) w w3 := ((HK0.out.mono fun _ _ h => h.1).trans (HK2.out.mono fun _ _ _ => trivial)).trans (HK3.out.mono fun _ _ h => h.2)
  exact h1.mono fun b hb h => ⟨h, by have := HMO.out; omega⟩
end Go.Proofs.Ytoegdfiehjabjaa
