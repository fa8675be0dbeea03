/-
  THE PROGRAM's ENTRIES: Encode.
-/
import Derived.Test.YtgdbkmecfbkobaaItemEnc
import Derived.Test.YtgdbkmecfbkobaaItemItems
namespace Go.Proofs.Ytgdbkmecfbkobaa
open Go Go.RowKit Go.Joins

set_option maxRecDepth 100000 in
set_option maxHeartbeats 1000000 in
theorem iencode (w : World) (A : Option Addr) (cap : Nat) (l : List It) (hA : ItsAt w A (fun _ => True) l) (hl : l.length ≤ cap) (hc : cap ≤ maxLen) (hn : l.length ≤ 1000) (hf : ∀ x ∈ l, x.fits) :
    Calls Try.prog 15 #[.slice A l.length cap] w fun e w' => ∃ B k, e = .returned (.slice B (encs l).length k) ∧ (encs l).length ≤ k ∧ k ≤ maxLen ∧
      Row w' B (fun b => w.heap.size ≤ b ∧ b < w'.heap.size) (bcells (encs l)) ∧ Keeps (fun _ => True) w w' := by
  have hc' := hc
  unfold maxLen at hc'
  have HFIN := Lib.hid (show ∀ (v : Value) (wr : World), OwnB wr w.heap.size v (encs l) → Keeps (fun _ => True) w wr →
      ∃ B k, Ending.returned v = .returned (.slice B (encs l).length k) ∧ (encs l).length ≤ k ∧ k ≤ maxLen ∧ Row wr B (fun b => w.heap.size ≤ b ∧ b < wr.heap.size) (bcells (encs l)) ∧ Keeps (fun _ => True) w wr from fun v wr ho hkp => by
    have h2 := ho.2
    obtain ⟨B, k, rfl, -, hr⟩ := own_slice ho
    refine ⟨B, k, rfl, ?_, ?_, hr, hkp⟩
    · rcases h2 with ⟨e, h0⟩ | ⟨g, c, cur, e, -, -, h1, h2, -⟩
      · omega
      · injection e with _ _ e; omega
    · rcases h2 with ⟨e, h0⟩ | ⟨g, c, cur, e, -, -, h1, h2, -⟩
      · injection e with _ _ e; subst e; decide
      · injection e with _ _ e; omega)
  have HA := Lib.hid hA
  have HF := Lib.hid hf
  clear hA hf hc
  go_enter Try.func15, Try.ntmps15
  go_wp2
  go_loopw [3, 8] (fun v i wr => ∃ k : Nat, k ≤ l.length ∧ i = .int .i64 k ∧ (l.take k).all It.may = true ∧ OwnB wr w.heap.size v (bytesOf (l.take k)) ∧ Keeps (fun _ => True) w wr) (fun _ i _ => l.length - (intOf i).toNat)
  case atStart => exact ⟨0, Nat.zero_le _, rfl, rfl, World.ownsRow_nil _ _ _ _, Keeps.refl _ _⟩
  case round =>
    obtain ⟨k, hk, rfl, hall, hown, hkp⟩ := hrel
    have hwz := hkp.size
    have hblen := bytesOf_len hall
    rw [List.length_take, Nat.min_eq_left hk] at hblen
    have HW := Lib.hid hown
    have HK := Lib.hid hkp
    have HALL := Lib.hid hall
    clear hown hkp hall
    by_cases hlt : k < l.length
    · have t1 : decide ((k : Int) < (l.length : Int)) = true := by simp; omega
      obtain ⟨b, o, rfl, hb, d0, d1, d2, d3⟩ := HA.out k hlt
      have hfx := HF.out _ (List.getElem_mem hlt)
      have HN := Lib.hid (take_bytes l k hlt)
      have HT := Lib.hid (take_may l k hlt)
      have HNO := Lib.hid (not_may hlt)
      generalize l[k] = x at d0 d1 d2 d3 hfx HN HT HNO
      have HC := Lib.hid (show ∀ W, Keeps (fun _ => True) w W → W.cell? ⟨b, o + k * 4, none⟩ = some (.string x.key) ∧ W.cell? ⟨b, o + k * 4 + 1, none⟩ = some (.string x.val) ∧ W.cell? ⟨b, o + k * 4 + 2, none⟩ = some (.int .i64 x.till) ∧ W.cell? ⟨b, o + k * 4 + 3, none⟩ = some (.bool x.gone) from
        fun W h => ⟨h.cell d0 trivial, h.cell d1 trivial, h.cell d2 trivial, h.cell d3 trivial⟩)
      clear d0 d1 d2 d3
      obtain ⟨c0, c1, c2, c3⟩ := HC.out wr HK.out
      have RM := Lib.hid (fun W => imay W x hfx)
      have REN := Lib.hid (fun W h => iencode1 W x h)
      clear hfx
      go_wp2_with fail
      refine (RM.out _).mono ?_
      rintro e w1 ⟨rfl, hk1⟩
      have hx := hk1.block wr.heap.size trivial (by simp)
      have hx2 := hx.trans (heap_alloc_new wr (.cells #[.string x.key, .string x.val, .int .i64 x.till, .bool x.gone] 23))
      have HK1 := Lib.hid ((HK.out.alloc (.cells #[.string x.key, .string x.val, .int .i64 x.till, .bool x.gone] 23)).trans hk1)
      have HW1 := Lib.hid (((Keeps.refl (fun _ => True) wr).alloc _).trans hk1 |>.own HW.out fun _ _ => trivial)
      have e0 := (cell_of_block hx2 0).trans rfl
      have e1 := (cell_of_block hx2 1).trans rfl
      have e2 := (cell_of_block hx2 2).trans rfl
      have e3 := (cell_of_block hx2 3).trans rfl
      clear hk1 hx hx2 c0 c1 c2 c3 RM
      rcases hm : x.may with _ | _
      · have HM := Lib.hid hm
        clear hm
        go_wp2_with fail
        go_ret
        exact HFIN.out _ _ (by rw [HNO.out HM.out]; exact World.ownsRow_nil _ _ _ _) HK1.out
      · have hmb := It.bytes_len hm
        have HM := Lib.hid hm
        clear hm
        go_wp2_with fail
        refine (REN.out _ HM.out).mono ?_
        rintro e w2 ⟨v2, rfl, ho2, hk2⟩
        have HSRC := Lib.hid (src_own ho2)
        have HW2 := Lib.hid (hk2.own HW1.out fun _ _ => trivial)
        have HK2 := Lib.hid (HK1.out.trans hk2)
        have hz2 := HK2.out.size
        clear ho2 hk2 HW1 HK1 e0 e1 e2 e3 REN
        go_wp2_with (at_builtin; refine byte_elem.list_append rfl (.tmp 15) (.tmp 17) _ rfl rfl HW2.out rfl HSRC.out ?c3 ?c4 ?c5 ?_)
        case c3 => unfold maxLen; omega
        case c4 => omega
        case c5 => omega
        intro v3 w3 ho3 hg3 hb3
        have ho4 := OwnB.snoc ho3 (by rw [List.length_append]) rfl
        rw [← HN.out] at ho4
        have H1 := Lib.hid ho4
        have H2 := Lib.hid (HK2.out.grown hg3 fun j hj => (HW2.out.lt j hj).1)
        have H3 := Lib.hid (show (l.take (k + 1)).all It.may = true from by rw [HT.out, HALL.out, HM.out]; rfl)
        clear ho3 hg3 hb3 ho4 HW2 HK2 HSRC
        go_wp2_with fail
        go_roundw
        case rel => exact ⟨k + 1, by omega, by go_num, H3.out, H1.out, H2.out⟩
        case measure => simp [intOf]; omega
    · have t1 : decide ((k : Int) < (l.length : Int)) = false := by simp; omega
      obtain rfl : k = l.length := by omega
      have he : OwnB wr w.heap.size u3 (encs l) := by
        have h1 := HALL.out
        have h2 := HW.out
        rw [List.take_of_length_le (Nat.le_refl _)] at h1 h2
        rw [encs_may h1]; exact h2
      have HE := Lib.hid he
      clear he
      go_wp2_with fail
      go_ret
      exact HFIN.out _ _ HE.out HK.out

end Go.Proofs.Ytgdbkmecfbkobaa
