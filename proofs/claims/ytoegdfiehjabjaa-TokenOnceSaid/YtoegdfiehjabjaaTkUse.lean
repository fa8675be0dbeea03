/-
  THE LANDED RIGHTS: Use.
-/
import Derived.Test.YtoegdfiehjabjaaTkSt
namespace Go.Proofs.Ytoegdfiehjabjaa
open Go Go.RowKit Go.Joins Go.Maps Go.ChangeShapes Go.WideShapes Go.ChangeAt

section
variable {w w' : World} {t : Nat} {F : Nat → Prop} {L : List Tk} {mo ml no nl : Nat} {B : Nat → Nat} {go gl : Lit → Option Value}
/-- Not among those that are not used. -/
theorem Tab.none (h : Tab L B go gl) {id : Int} (hg : go (.int .i64 id) = none) : tkUse L id = (⟨#[]⟩, false) ∧ tkUsed L id = L := by
  unfold tkUse tkUsed
  cases ht : tkAt L id with
  | none => exact ⟨rfl, rfl⟩
  | some x =>
    unfold tkAt at ht
    split at ht
    · rename_i h1
      cases hu : x.used with
      | false =>
        have h2 := h.o1 _ x ht hu
        rw [show (((id - 1).toNat : Int) + 1) = id by omega, hg] at h2
        cases h2
      | true =>
        refine ⟨by simp [hu], ?_⟩
        obtain ⟨hlt, hx⟩ := List.getElem?_eq_some_iff.1 ht
        have e : ({ x with used := true } : Tk) = L[(id - 1).toNat] := by rw [hx]; obtain ⟨a, b, c⟩ := x; simp at hu; rw [hu]
        show L.set _ _ = L
        rw [e, List.set_getElem_self]
    · cases ht
theorem tkUse_nil (id : Int) : tkUse [] id = (⟨#[]⟩, false) ∧ tkUsed [] id = [] := by
  have : tkAt [] id = Option.none := by unfold tkAt; split <;> simp
  unfold tkUse tkUsed
  rw [this]
  exact ⟨rfl, rfl⟩
end

set_option maxRecDepth 100000 in
theorem tuse_none (w : World) (t : Nat) (n : Int) (mo no ml : Nat) (go : Lit → Option Value) (id : Int) (hb : TkBlk w t n (some mo) (some ml)) (hm : MapIs Try.prog 2 w mo no go) (hg : go (.int .i64 id) = none) (h1 : -9223372036854775808 ≤ id) (h2 : id < 9223372036854775808) :
    Calls Try.prog 13 #[.pointer (some ⟨t, 0, none⟩), .int .i64 id] w fun e w' => e = .returned (.tuple #[.string ⟨#[]⟩, .bool false]) ∧ w = w' := by
  have c1 := hb.c1
  have hlook := hm.look2 (t := 47) num_keyed Try.underlying47 (bat_zero w) (num_key id h1 h2)
  rw [hg] at hlook
  simp only [Option.getD_none, Option.isSome_none] at hlook
  clear hb hm hg h1 h2
  go_enter Try.func13, Try.ntmps13
  go_wp2_with fail
  go_ret2
  exact ⟨rfl, rfl⟩
set_option maxRecDepth 100000 in
theorem tuse_zero (w : World) (t : Nat) (n : Int) (id : Int) (hb : TkBlk w t n none none) (h1 : -9223372036854775808 ≤ id) (h2 : id < 9223372036854775808) :
    Calls Try.prog 13 #[.pointer (some ⟨t, 0, none⟩), .int .i64 id] w fun e w' => e = .returned (.tuple #[.string ⟨#[]⟩, .bool false]) ∧ w = w' := by
  have c1 := hb.c1
  have hlook := Maps.look_nil (t := 47) true num_keyed Try.underlying47 (bat_zero w) (num_key id h1 h2)
  clear hb h1 h2
  go_enter Try.func13, Try.ntmps13
  go_wp2_with fail
  go_ret2
  exact ⟨rfl, rfl⟩
theorem tuse_nil (w : World) (id : Int) : Calls Try.prog 13 #[.pointer none, .int .i64 id] w fun e w' => e = .returned (.tuple #[.string ⟨#[]⟩, .bool false]) ∧ w = w' := by
  go_enter Try.func13, Try.ntmps13
  go_wp2_with fail
  go_ret2
  exact ⟨rfl, rfl⟩

/-- What Use has found in memory. -/
structure Found (w : World) (t : Nat) (n : Int) (mo ml no nl b : Nat) (go gl : Lit → Option Value) (k : ByteArray) (c : Int) (d : Bool) : Prop where
  blk : TkBlk w t n (some mo) (some ml)
  hmo : MapIs Try.prog 2 w mo no go
  hml : MapIs Try.prog 9 w ml nl gl
  hb : BtBlk w b k c d
  ne : mo ≠ ml
set_option maxRecDepth 100000 in
set_option maxHeartbeats 1000000 in
/-- One that was killed. -/
theorem tuse_dead (w : World) (t : Nat) (n : Int) (mo ml no nl b : Nat) (go gl : Lit → Option Value) (k : ByteArray) (c : Int) (id : Int) (h : Found w t n mo ml no nl b go gl k c true) (hg : go (.int .i64 id) = some (.pointer (some ⟨b, 0, none⟩))) (h1 : -9223372036854775808 ≤ id) (h2 : id < 9223372036854775808) :
    Calls Try.prog 13 #[.pointer (some ⟨t, 0, none⟩), .int .i64 id] w fun e w' => e = .returned (.tuple #[.string k, .bool false]) ∧ MapIs Try.prog 2 w' mo no (mdel go (.int .i64 id)) ∧ Keeps (fun x => x ≠ mo) w w' := by
  have c1 := h.blk.c1
  have hlook := h.hmo.look2 (t := 47) num_keyed Try.underlying47 (bat_zero w) (num_key id h1 h2)
  rw [hg] at hlook
  simp only [Option.getD_some, Option.isSome_some] at hlook
  have HKY := Lib.hid (num_key id h1 h2)
  have HH := Lib.hid h
  clear h hg h1 h2
  go_enter Try.func13, Try.ntmps13
  go_wp2_with (at_delete; refine HH.out.hmo.list_drop rfl (.tmp 24) (.tmp 25) rfl num_keyed Try.underlying47 rfl (.int .i64 id) (.int .i64 id) rfl HKY.out ?_)
  intro w1 hm1 hg1
  have hk1 : Keeps (fun x => x ≠ mo) w w1 := Keeps.of_grown hg1 fun b e _ hn => by cases e; exact hn rfl
  have hb1 := HH.out.hb.keep hk1 (HH.out.hmo.not_cells HH.out.hb)
  have d0 := hb1.c0
  have d2 := hb1.c2
  have HM1 := Lib.hid hm1
  have HK1 := Lib.hid hk1
  clear hm1 hg1 hk1 hb1 hlook c1
  go_wp2_with fail
  go_ret2
  exact ⟨rfl, HM1.out, HK1.out⟩
set_option maxRecDepth 100000 in
set_option maxHeartbeats 1000000 in
/-- A good one, and its key has others. -/
theorem tuse_good (w : World) (t : Nat) (n : Int) (mo ml no nl b : Nat) (go gl : Lit → Option Value) (k : ByteArray) (c : Nat) (id : Int) (h : Found w t n mo ml no nl b go gl k ((c : Int) + 2) false) (hc : c ≤ 1000) (hg : go (.int .i64 id) = some (.pointer (some ⟨b, 0, none⟩))) (h1 : -9223372036854775808 ≤ id) (h2 : id < 9223372036854775808) :
    Calls Try.prog 13 #[.pointer (some ⟨t, 0, none⟩), .int .i64 id] w fun e w' => e = .returned (.tuple #[.string k, .bool true]) ∧ ∃ w1, MapIs Try.prog 2 w1 mo no (mdel go (.int .i64 id)) ∧ Keeps (fun x => x ≠ mo) w w1 ∧ w' = w1.setCell ⟨b, 1, none⟩ (.int .i64 ((c : Int) + 1)) := by
  have c1 := h.blk.c1
  have hlook := h.hmo.look2 (t := 47) num_keyed Try.underlying47 (bat_zero w) (num_key id h1 h2)
  rw [hg] at hlook
  simp only [Option.getD_some, Option.isSome_some] at hlook
  have HKY := Lib.hid (num_key id h1 h2)
  have HH := Lib.hid h
  obtain ⟨q, hq⟩ : ∃ q : Nat, q = c + 1 := ⟨_, rfl⟩
  have e1 : (c : Int) + 2 = (q : Int) + 1 := by omega
  have e2 : (c : Int) + 1 = (q : Int) := by omega
  have hq0 : ((q : Int) == 0) = false := by simp; omega
  have hqn : q ≤ 1001 := by omega
  rw [e2]
  rw [e1] at HH
  have hsub : (q : Int) + 1 - 1 = (q : Int) := by omega
  have HS := Lib.hid hsub
  clear h hg h1 h2 hq e1 e2 hc hsub
  go_enter Try.func13, Try.ntmps13
  go_wp2_with (at_delete; refine HH.out.hmo.list_drop rfl (.tmp 24) (.tmp 25) rfl num_keyed Try.underlying47 rfl (.int .i64 id) (.int .i64 id) rfl HKY.out ?_)
  intro w1 hm1 hg1
  have hk1 : Keeps (fun x => x ≠ mo) w w1 := Keeps.of_grown hg1 fun b e _ hn => by cases e; exact hn rfl
  have hb1 := HH.out.hb.keep hk1 (HH.out.hmo.not_cells HH.out.hb)
  have d0 := hb1.c0
  have d1 := hb1.c1
  have d2 := hb1.c2
  have f1 := hb1.f1
  have HM1 := Lib.hid hm1
  have HK1 := Lib.hid hk1
  clear hm1 hg1 hk1 hb1 hlook c1
  have hsub := HS.out
  go_wp2_with fail
  go_ret2
  exact ⟨rfl, w1, HM1.out, HK1.out, rfl⟩
set_option maxRecDepth 100000 in
set_option maxHeartbeats 1000000 in
/-- The last good one of its key. -/
theorem tuse_last (w : World) (t : Nat) (n : Int) (mo ml no nl b : Nat) (go gl : Lit → Option Value) (k : ByteArray) (id : Int) (h : Found w t n mo ml no nl b go gl k 1 false) (hk : k.size ≤ 1000000) (hg : go (.int .i64 id) = some (.pointer (some ⟨b, 0, none⟩))) (h1 : -9223372036854775808 ≤ id) (h2 : id < 9223372036854775808) :
    Calls Try.prog 13 #[.pointer (some ⟨t, 0, none⟩), .int .i64 id] w fun e w' => e = .returned (.tuple #[.string k, .bool true]) ∧ ∃ w1, MapIs Try.prog 2 w1 mo no (mdel go (.int .i64 id)) ∧ Keeps (fun x => x ≠ mo) w w1 ∧
      MapIs Try.prog 9 w' ml nl (mdel gl (.string k.data.toList)) ∧ Keeps (fun x => x ≠ ml) (w1.setCell ⟨b, 1, none⟩ (.int .i64 0)) w' := by
  have c1 := h.blk.c1
  have hlook := h.hmo.look2 (t := 47) num_keyed Try.underlying47 (bat_zero w) (num_key id h1 h2)
  rw [hg] at hlook
  simp only [Option.getD_some, Option.isSome_some] at hlook
  have HKY := Lib.hid (num_key id h1 h2)
  have HKS := Lib.hid (str_key k hk)
  have HH := Lib.hid h
  clear h hg h1 h2 hk
  go_enter Try.func13, Try.ntmps13
  go_wp2_with (at_delete; refine HH.out.hmo.list_drop rfl (.tmp 24) (.tmp 25) rfl num_keyed Try.underlying47 rfl (.int .i64 id) (.int .i64 id) rfl HKY.out ?_)
  intro w1 hm1 hg1
  have hk1 : Keeps (fun x => x ≠ mo) w w1 := Keeps.of_grown hg1 fun b e _ hn => by cases e; exact hn rfl
  have hb1 := HH.out.hb.keep hk1 (HH.out.hmo.not_cells HH.out.hb)
  have ht1 := HH.out.blk.keep hk1 (HH.out.hmo.not_cells HH.out.blk)
  have d0 := hb1.c0
  have d1 := hb1.c1
  have d2 := hb1.c2
  have f1 := hb1.f1
  have HM1 := Lib.hid hm1
  have HK1 := Lib.hid hk1
  have HB1 := Lib.hid hb1
  have HT1 := Lib.hid ht1
  clear hm1 hg1 hk1 hb1 ht1 hlook c1
  go_wp2_with fail
  obtain ⟨w2, hw2⟩ : ∃ w2, w1.setCell ⟨b, 1, none⟩ (.int .i64 0) = w2 := ⟨_, rfl⟩
  have hk2 : Keeps (fun x => x ≠ b) w1 w2 := by rw [← hw2]; exact (Keeps.refl _ _).setCell (.inr fun h => h rfl) _
  have hb2 : BtBlk w2 b k 0 false := by rw [← hw2]; exact HB1.out.set1 0
  have ht2 := HT1.out.keep hk2 (Ne.symm (HT1.out.ne HB1.out))
  have hm2 := (HH.out.hml.keep HK1.out (Ne.symm HH.out.ne)).keep hk2 (Ne.symm (HH.out.hml.not_cells HH.out.hb))
  have c2 := ht2.c2
  have d0 := hb2.c0
  have HM2 := Lib.hid hm2
  rw [hw2]
  have HB2 := Lib.hid hb2
  clear hk2 hb2 ht2 hm2 d1 d2 f1
  have HW2 := Lib.hid hw2
  clear hw2
  go_still_tail 8, (by kernel_rfl)
  change wpList _ _ _ _ _ w2.drew
  go_wp2_with (at_delete; refine (HM2.out.keep ((Keeps.refl (fun _ => True) w2).drew) trivial).list_drop rfl (.tmp 49) (.tmp 53) rfl str_keyed Try.underlying48 rfl (.string k) (.string k.data.toList) rfl HKS.out ?_)
  intro w3 hm3 hg3
  have hk3 : Keeps (fun x => x ≠ ml) w2 w3 := ((Keeps.refl _ w2).drew).trans (Keeps.of_grown hg3 fun b e _ hn => by cases e; exact hn rfl)
  have d0 := (HB2.out.keep hk3 (HM2.out.not_cells HB2.out)).c0
  have HM3 := Lib.hid hm3
  have HK3 := Lib.hid hk3
  clear hm3 hg3 hk3
  go_wp2_with fail
  go_ret2
  exact ⟨rfl, w1, HM1.out, HK1.out, HM3.out, by rw [HW2.out]; exact HK3.out⟩

end Go.Proofs.Ytoegdfiehjabjaa
