/-
  'Texts' over a row anywhere, at any two numbers.
-/
import Derived.Test.YtoegdfiehjabjaaTkKeys
import Derived.Test.YtoegdfiehjabjaaTextCut
import Derived.WalkSpells
namespace Go.Proofs.Ytoegdfiehjabjaa
open Go Go.RowKit Go.Joins

/-- What Texts leaves of these texts. -/
def cutsN (m n : Nat) (ss : List ByteArray) : List ByteArray := (ss.take m).map (cutZ · n)
theorem cutsN_len (m n : Nat) (ss : List ByteArray) : (cutsN m n ss).length = min m ss.length := by simp [cutsN]
theorem cutsN_size (m n : Nat) (ss : List ByteArray) : ∀ s ∈ cutsN m n ss, s.size ≤ n := fun s hs => by
  obtain ⟨t, -, rfl⟩ := List.mem_map.1 hs
  exact cutZ_size t n
def cutLN (n : Nat) (ss : List ByteArray) (k : Nat) : List Value := ((ss.take k).map (cutZ · n)).map Value.string
theorem cutLN_len (n : Nat) (ss : List ByteArray) (k : Nat) (h : k ≤ ss.length) : ((ss.take k).map (cutZ · n)).length = k := by simp; omega
theorem cutsN_next (n : Nat) (ss : List ByteArray) (k : Nat) (h : k < ss.length) : cutLN n ss k ++ [Value.string (cutZ ss[k] n)] = cutLN n ss (k + 1) := by
  unfold cutLN
  rw [List.take_succ_eq_append_getElem h, List.map_append, List.map_append]; rfl
set_option maxHeartbeats 400000 in
theorem texts_n (w : World) (m n : Nat) (hm : m ≤ 100) (hn : n ≤ 100) (zm zn : Int) (hzm : zm = (m : Int)) (hzn : zn = (n : Int)) (A : Option Addr) (c : Nat) (ss : List ByteArray) (hl : ss.length ≤ c) (hc : c ≤ maxLen) (hr : Row w A (fun b => b < w.heap.size) (ss.map Value.string)) (hs : ∀ s ∈ ss, s.size ≤ maxLen) :
    Calls Try.prog 10 #[.slice A ss.length c, .int .i64 zm, .int .i64 zn] w fun e w' => ∃ A' c', e = .returned (.slice A' (cutsN m n ss).length c') ∧ (cutsN m n ss).length ≤ c' ∧ c' ≤ maxLen ∧ Row w' A' (fun b => w.heap.size ≤ b ∧ b < w'.heap.size) ((cutsN m n ss).map Value.string) ∧ Kp w w' := by
  subst hzm hzn
  obtain ⟨N, hN⟩ : ∃ N, ss.length = N := ⟨_, rfl⟩
  have HN := Lib.hid hN
  have HR := Lib.hid hr
  have HSZ := Lib.hid hs
  have hNm : N ≤ 9223372036854775807 := by unfold maxLen at hc; omega
  obtain ⟨B, hB⟩ : ∃ B, w.heap.size = B := ⟨_, rfl⟩
  have HB := Lib.hid hB
  have hW : Kp w w := Keeps.refl _ _
  have HK := Lib.hid hW
  have HE := Lib.hid (show ∀ k, (k = m ∧ m ≤ N) ∨ (k = N ∧ N ≤ m) → (ss.take k).map (cutZ · n) = cutsN m n ss from by
    intro k h
    unfold cutsN
    rcases h with ⟨rfl, -⟩ | ⟨rfl, h⟩
    · rfl
    · rw [List.take_of_length_le (by omega), List.take_of_length_le (by omega)])
  rw [hN, hB]
  rw [hN] at hl
  clear hr hs hW hN hB hl hc
  go_enter Try.func10, Try.ntmps10
  go_wp2
  go_loopw [7, 8] (fun v i wr => ∃ k : Nat, k ≤ N ∧ k ≤ m ∧ i = .int .i64 (k : Int) ∧ Hid (wr.ownsRow B 9 1 v k (cutLN n ss k)) ∧ Hid (Kp w wr)) (fun _ i _ => m - (intOf i).toNat)
  case atStart => exact ⟨0, Nat.zero_le _, by omega, rfl, Lib.hid (World.ownsRow_nil _ _ _ _), HK⟩
  case round =>
    clear HK
    obtain ⟨k, hk, hkm, rfl, HO, HK⟩ := hrel
    have hc2 : (k < N ∧ k < m) ∨ (k < N ∧ ¬ k < m) ∨ ¬ k < N := by omega
    rcases hc2 with ⟨t1, t2⟩ | ⟨t1, t2⟩ | t1
    case inl =>
      have t1' : (k : Int) < (N : Int) := by omega
      have t2' : (k : Int) < (m : Int) := by omega
      have hkl : k < ss.length := by rw [HN.out]; exact t1
      obtain ⟨b, o, rfl, -, hcell⟩ := (HR.out.keep (HK.out.mono fun _ _ _ => trivial)).at_ (k := k) (by rw [List.length_map]; exact hkl)
      rw [List.getElem_map] at hcell
      have hsz : ss[k].size ≤ maxLen := HSZ.out _ (List.getElem_mem hkl)
      have HX := Lib.hid (cutsN_next n ss k hkl)
      generalize ss[k] = s at hcell hsz HX
      have hkG : Kp wr (wr.alloc (.cells #[.string (cutZ s n)] 9)) := (Keeps.refl _ _).alloc _
      have HROW := Lib.hid (hkG.own HO.out fun _ _ => trivial)
      have HSRC := Lib.hid (tksrc wr wr.heap.size rfl (cutZ s n))
      have HKA := Lib.hid (HK.out.trans hkG)
      have HBH := Lib.hid (show B ≤ (wr.alloc (.cells #[.string (cutZ s n)] 9)).heap.size from by rw [← HB.out]; exact HKA.out.size)
      have HLT := Lib.hid hsz
      clear hkG HK hkl hsz
      go_wp2_with (first
        | (go_at_call 9; ((with_reducible refine (tcut_any s n HLT.out hn _).mono ?_); rintro e w' ⟨rfl, rfl⟩))
        | (at_builtin; go_loud (refine tkstr_elem.list_append rfl (.tmp 20) (.tmp 27) _ rfl rfl HROW.out rfl HSRC.out ?c3 ?c4 HBH.out ?_)))
      case c3 => unfold maxLen; omega
      case c4 => omega
      intro v7 w7 ho7 hg7 hb7
      rw [HX.out] at ho7
      have hkB : Keeps (fun b => b < B) (wr.alloc (.cells #[.string (cutZ s n)] 9)) w7 := Keeps.of_grown hg7 fun b hb _ hlt => by
        have h1 := (HROW.out.lt b hb).1
        omega
      have hkG : Kp w w7 := ⟨hkB.os.trans HKA.out.os, hkB.tape.trans HKA.out.tape, hkB.output.trans HKA.out.output, Nat.le_trans HKA.out.size hkB.size, fun b _ hb =>
        (hkB.block b (by rw [← HB.out]; exact hb) (Nat.lt_of_lt_of_le hb HKA.out.size)).trans (HKA.out.block b trivial hb)⟩
      have HO7 := Lib.hid ho7
      have HK7 := Lib.hid hkG
      clear ho7 hg7 hb7 hkG hkB HROW HSRC HKA HBH
      go_wp2_with fail
      go_roundw
      case rel => exact ⟨k + 1, by omega, by omega, by go_num, HO7, HK7⟩
      case measure => simp [intOf]; omega
    all_goals (try have t1' : (k : Int) < (N : Int) := by omega)
    all_goals (try have t2' : ¬ (k : Int) < (m : Int) := by omega)
    all_goals (try have t1' : ¬ (k : Int) < (N : Int) := by omega)
    all_goals (
      obtain ⟨A', c', rfl, h1, h2, h3⟩ := tk_rowA (cutLN_len n ss k (by rw [HN.out]; exact hk)) HO.out
      have e := HE.out k (by omega)
      rw [e] at h3
      have hcl : (cutsN m n ss).length = k := by rw [← e, List.length_map, List.length_take, HN.out]; omega
      have HCL := Lib.hid hcl
      have H3 := Lib.hid h3
      have H12 := Lib.hid (And.intro h1 h2)
      clear h1 h2 h3 e hcl HO
      go_wp2_with fail
      go_ret
      exact ⟨_, _, by rw [HCL.out]; rfl, by rw [HCL.out]; exact H12.out.1, H12.out.2, H3.out, HK.out⟩)

end Go.Proofs.Ytoegdfiehjabjaa
