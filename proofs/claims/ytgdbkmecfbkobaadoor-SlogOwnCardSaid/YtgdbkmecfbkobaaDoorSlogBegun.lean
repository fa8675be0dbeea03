/-
  'begun' OF LAYER 6 ANSWERS true, however the program's log lies on its segments.
-/
import Derived.Test.YtgdbkmecfbkobaaDoorSlogIf
import Derived.Outline
namespace Go.Proofs.YtgdbkmecfbkobaaDoor
open Go Go.RowKit Go.Joins

def oneL6 : List UInt8 := [111, 110, 101]
def oneV6 : Array Value := #[.int .u8 111, .int .u8 110, .int .u8 101]
theorem oneV6_is : oneV6.toList = bcells oneL6 := by simp [oneV6, oneL6, bcells, bcell]
def twoL6 : List UInt8 := [116, 119, 111]
def twoV6 : Array Value := #[.int .u8 116, .int .u8 119, .int .u8 111]
theorem twoV6_is : twoV6.toList = bcells twoL6 := by simp [twoV6, twoL6, bcells, bcell]
theorem one_txt6 : txt oneL6 = { data := #[111, 110, 101] } := rfl

set_option maxRecDepth 100000 in
set_option maxHeartbeats 2000000 in
theorem begun6 (S : SlogOK) (w : World) (hT : S.T w) : Calls Tryd.prog 8 #[] w fun e w' => e = .returned (.bool true) ∧ Keeps (fun _ => True) w w' := by
  have kc := fun (w : World) (C : Array Value) (n c : Nat) => Lib.run_convert_bytes_const (P := Tryd.prog) w 31 5 C n c Tryd.underlying31 Tryd.underlying5
  have HT := Lib.hid hT
  clear hT
  go_enter Tryd.func8, Tryd.ntmps8
  go_wp2_with fail
  refine (dv_new (Keeps.refl _ w) 40 (by decide) (by decide) 40 rfl).mono ?_
  rintro e w1 ⟨p, F, rfl, hd, -, -⟩
  have HD := Lib.hid hd
  clear hd
  go_wp2_with fail
  refine (lg_new S HT.out HD.out 1 4 1 4 rfl rfl (by decide) (by decide) (by decide) (fun j _ h2 => blank_getD 40 j (by omega))).mono ?_
  rintro e w2 ⟨q, Fs, f0, x0, rfl, hl, hx0, -, -⟩
  have HL := Lib.hid hl
  clear hl HD
  go_wp2_with fail
  have ha := lg_append HT.out (HL.out.keep ((Keeps.refl _ w2).alloc (.cells oneV6 5 (3, 4)))) (some ⟨w2.heap.size, 0, none⟩) 3 oneL6 3 rfl
    (Row.fresh (F := fun b => ¬ F.all b ∧ ¬ Fs.all b) w2 oneV6 5 (3, 4) _ rfl ⟨fun hf => by have := HL.out.dv.d.lt _ hf; omega, fun hf => by have := S.lt HL.out.lg _ hf; omega⟩ (bcells oneL6) oneV6_is) (by decide) (by decide) (by decide) (by decide) (by decide) (show x0 ≤ _ by omega)
  refine (show Calls _ _ _ _ _ from ha).mono ?_
  rintro e w3 ⟨x1, F1, Fs1, s1, g1, f1, y1, rfl, hl1, -, hx1, hy1, hm1⟩
  have hc1 := hm1.calls
  have HL1 := Lib.hid hl1
  clear ha hl1 HL hm1
  go_wp2_with fail
  have ha := lg_append HT.out (HL1.out.keep ((Keeps.refl _ w3).alloc (.cells twoV6 5 (3, 4)))) (some ⟨w3.heap.size, 0, none⟩) 3 twoL6 3 rfl
    (Row.fresh (F := fun b => ¬ F1.all b ∧ ¬ Fs1.all b) w3 twoV6 5 (3, 4) _ rfl ⟨fun hf => by have := HL1.out.dv.d.lt _ hf; omega, fun hf => by have := S.lt HL1.out.lg _ hf; omega⟩ (bcells twoL6) twoV6_is) (by decide) (by decide) (by decide) (by decide) (Nat.le_trans hc1 (by decide)) (show y1 ≤ _ by omega)
  refine (show Calls _ _ _ _ _ from ha).mono ?_
  rintro e w4 ⟨x2, F2, Fs2, s2, g2, f2, y2, rfl, hl2, -, hx2, hy2, hm2⟩
  have hc2 : s2.calls ≤ 2000 := Nat.le_trans hm2.calls (Nat.add_le_add_right hc1 1000)
  have HL2 := Lib.hid hl2
  clear ha hl2 HL1 hm2 hc1
  go_wp2_with fail
  refine (lg_flush HT.out HL2.out (by omega)).mono ?_
  rintro e w5 ⟨rfl, F3, Fs3, rows, k, hl3, hdk, -⟩
  have hok := S.wf hl3.lg
  obtain rfl : g2 = 0 := hok.whole (by show (126 : Nat) ≤ 400; decide)
  have hr1 := hok.rise
  have hn1 := hok.next.2 ⟨x2, twoL6, 0⟩ (by simp)
  have hp1 := (hok.one ⟨x1, oneL6, 0⟩ (by simp)).1
  simp only [List.nil_append, List.cons_append, List.pairwise_cons, List.mem_singleton, forall_eq, List.not_mem_nil] at hr1 hn1 hp1
  have t1 : decide (x1 < x2) = true := by simpa using hr1.1
  have t2 : decide (x2 < y2) = true := by simpa using hn1
  have HL3 := Lib.hid hl3
  have HDK := Lib.hid hdk
  clear hl3 hdk HL2 hok hr1 hn1
  go_wp2_with fail
  refine (lg_read HT.out HL3.out x1 oneL6 (by simp [LSt.recs, LRec.key]) (x1 : Int) rfl).mono ?_
  rintro e w6 ⟨A, c, rfl, -, -, hr, -, hk6⟩
  have HR := Lib.hid hr
  have HL4 := Lib.hid (HL3.out.keep hk6)
  clear hr hk6 HL3
  go_wp2_with fail
  refine (dv_crash HL4.out.dv none 0 (fun _ => True) [] 0 rfl (Row.nil _ _ _) (by decide)).mono ?_
  rintro e w7 ⟨p7, F7, rfl, hd7, hk7⟩
  rw [still_crash] at hd7
  have HV := Lib.hid hd7
  have HL5 := Lib.hid (HL4.out.keep hk7)
  have HR5 := Lib.hid (HR.out.keep (hk7.mono fun _ _ _ => trivial))
  clear hd7 hk7 HL4 HR
  go_wp2_with fail
  refine (lg_old S HT.out HV.out _ HDK.out 1 4 rfl rfl HL5.out.room (show y2 ≤ 137438953472 by omega)).mono ?_
  rintro e w8 ⟨q8, Fs8, f8, y8, rfl, hl8, -, -, hk8⟩
  have hcv := fun w' (hk : Keeps (fun _ => True) w8 w') => (HR5.out.keep ((hk8.trans hk).mono fun _ _ _ => trivial)).to_string (P := Tryd.prog) Tryd.underlying31 Tryd.underlying5 Tryd.underlying9 oneL6.length c rfl
  have hcv8 := hcv w8 (Keeps.refl _ _)
  rw [one_txt6] at hcv8
  have HL8 := Lib.hid hl8
  have HL6 := Lib.hid (HL5.out.keep hk8)
  clear hl8 HL5 hk8 hcv HR5 HV HDK
  go_wp2_with fail
  refine (lg_all HT.out HL8.out).mono ?_
  rintro e w9 ⟨A9, c9, rfl, -, hk9⟩
  have e2 : (LSt.recs ⟨p7, 1, 4, opened ([] ++ [⟨x1, oneL6, 0⟩] ++ [⟨x2, twoL6, 0⟩]), 0, f8, y8⟩).length = 2 := rfl
  have HL7 := Lib.hid (HL6.out.keep hk9)
  clear hk9 HL8 HL6
  rw [e2]
  clear e2
  go_wp2_with fail
  refine (lg_next HT.out HL7.out).mono ?_
  rintro e w10 ⟨rfl, hk10⟩
  have HE := Lib.hid (HL7.out.dv.kp.trans hk10)
  clear hk10 HL7
  go_wp2_with fail
  go_ret
  exact ⟨rfl, HE.out⟩

end Go.Proofs.YtgdbkmecfbkobaaDoor
