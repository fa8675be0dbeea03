/-
  THE WALK OF CrcParts.
-/
import Derived.Test.YtfcbiaedhidibaaDoorCrcOne
import Derived.Test.YtfcbiaedhidibaaDoorShort
import Derived.Test.YtfcbiaedhidibaaDoorFrame
namespace Go.Proofs.YtfcbiaedhidibaaDoor.crcParts
open Go Go.RowKit

/-- A part cut short. -/
def shortP (p : Part) : Part := ⟨p.A, p.cap, p.l.take 100⟩
/-- The first k parts, each cut short. -/
def someP (ps : List Part) (k : Nat) : List Part := (ps.take k).map shortP
theorem someP_next (ps : List Part) (k : Nat) (h : k < ps.length) : someP ps (k + 1) = someP ps k ++ [shortP ps[k]] := by
  unfold someP; rw [List.take_succ_eq_append_getElem h, List.map_append]; rfl
theorem someP_len (ps : List Part) (k : Nat) (h : k ≤ ps.length) : (someP ps k).length = k := by simp [someP]; omega
theorem joined_append (l r : List Part) : joined (l ++ r) = joined l ++ joined r := by simp [joined]
theorem joined_len (ps : List Part) (k : Nat) : (joined (someP ps k)).length ≤ 100 * k := by
  induction k with
  | zero => simp [someP, joined]
  | succ k ih =>
    by_cases h : k < ps.length
    · rw [someP_next ps k h, joined_append, List.length_append]
      have : (joined [shortP ps[k]]).length ≤ 100 := by simp [joined, shortP]; omega
      omega
    · have e : someP ps (k + 1) = someP ps k := by unfold someP; rw [List.take_of_length_le (by omega), List.take_of_length_le (by omega)]
      rw [e]; omega

theorem parts_elem : Elem Tryd.prog 22 24 (.slice none 0 0) 1 24 := ⟨Tryd.underlying22, by kernel_rfl, rfl, by decide⟩

set_option maxRecDepth 100000 in
set_option maxHeartbeats 1000000 in
theorem walk (w : World) (B : Option Addr) (cb : Nat) (ps : List Part) (b1 : ps.length ≤ cb) (b2 : cb ≤ maxLen) (b3 : B = none → cb = 0) (b4 : Row w B (fun b => b < w.heap.size) (ps.map Part.val)) (b5 : ∀ p ∈ ps, p.Fits w (fun b => b < w.heap.size)) (hT : Taken w) :
    Calls Tryd.prog 3 #[.slice B ps.length cb] w fun e w' => e = .returned (.bool true) ∧ Below w.heap.size w w' := by
  have HB := Lib.hid b4
  have HF := Lib.hid b5
  have HT := Lib.hid hT
  clear b4 b5 hT b3
  unfold maxLen at b2
  go_enter Tryd.func3, Tryd.ntmps3
  go_wp2_with fail
  refine (begun_any _ HT.out).mono ?_
  rintro e w1 ⟨rfl, hb1⟩
  have HK1 := Lib.hid (Keeps.of_below hb1 (fun _ => True))
  have hsz := hb1.size
  clear hb1
  go_wp2
  go_loopw [4, 5, 6] (fun u v i wr => ∃ k : Nat, k ≤ ps.length ∧ k ≤ 6 ∧ i = .int .i64 k ∧ wr.ownsRow w.heap.size 24 1 u k ((someP ps k).map Part.val) ∧ OwnB wr w.heap.size v (joined (someP ps k)) ∧ ApartV u v ∧ Keeps (fun _ => True) w wr) (fun _ _ i _ => 6 - (intOf i).toNat)
  case atStart => exact ⟨0, Nat.zero_le _, by omega, rfl, World.ownsRow_nil _ _ _ _, World.ownsRow_nil _ _ _ _, (by intro b h; cases h), HK1.out⟩
  case round =>
    obtain ⟨k, hk, hk6, rfl, hown, hownb, hne, hkp⟩ := hrel
    by_cases hlt : k < ps.length
    · by_cases hl6 : k < 6
      · have hl6' : (k : Int) < 6 := by omega
        obtain ⟨b, o, rfl, _, hcell⟩ := (HB.out.keep (hkp.mono fun _ _ _ => trivial)).at_ (k := k) (by simpa using hlt)
        simp only [List.getElem_map, Part.val] at hcell
        have H := Lib.hid (someP_next ps k hlt)
        have hfit := HF.out ps[k] (List.getElem_mem hlt)
        have hjl := joined_len ps k
        generalize ps[k] = p at hcell H hfit
        have f1 := hfit.len
        have f2 := hfit.cap
        have f3 := Lib.hid hfit.none
        have hfitrow := Lib.hid hfit.row
        have HO := Lib.hid hown
        have HO2 := Lib.hid hownb
        have HK := Lib.hid hkp
        have Hne := Lib.hid hne
        clear hfit hown hownb hkp hne
        go_wp2_with fail
        obtain ⟨m, hm⟩ : ∃ m, m = (p.l.take 100).length := ⟨_, rfl⟩
        have Hm := Lib.hid hm
        have hm100 : m ≤ 100 := by rw [hm, List.length_take]; omega
        refine (short_at p.A p.l.length p.cap 100 100 m rfl (by rw [hm, List.length_take, Nat.min_comm]) _ f1 f2 f3.out (by decide)).mono ?_
        rintro e w' ⟨rfl, rfl⟩
        have hwz := HK.out.size
        clear hm
        go_wp2_with (at_builtin; refine parts_elem.list_append rfl (.tmp 26) (.tmp 28) _ rfl rfl (HO.out.alloc _) rfl (src_one Tryd.underlying22 _ _ _ ?c1 _ ?c2 _) ?c3 ?c4 ?c5 ?_)
        case c1 => rfl
        case c2 => rfl
        case c3 => unfold maxLen; omega
        case c4 => omega
        case c5 => simp; omega
        intro u' w2 hown' hg hb
        have hown2 : w2.ownsRow w.heap.size 24 1 u' (k + 1) ((someP ps (k + 1)).map Part.val) := by
          rw [H.out, List.map_append]
          have e : [shortP p].map Part.val = [.slice p.A m p.cap] := by simp [shortP, Part.val, Hm.out]
          rw [e]; exact hown'
        have hg2 : wr.grownBy w2 u4.ownBlock := grown_of_alloc hg
        have hk2 : Keeps (fun _ => True) w w2 := HK.out.grown hg2 fun b hb => (HO.out.lt b hb).1
        have hownb2 : OwnB w2 w.heap.size u5 (joined (someP ps k)) := World.ownsRow.kept HO2.out hg2 Hne.out.ne
        have hne2 : ApartV u' u5 := Hne.out.grown (n := wr.heap.size) (fun b hb => (World.ownsRow.lt HO2.out b hb).2) (Nat.le_succ _) (by simpa using hb)
        have f5 := hfitrow.out.keep (hk2.mono fun _ _ _ => trivial)
        have f6 := Lib.hid f5
        have hwz2 := hk2.size
        have hsrc : Src Tryd.prog 1 24 (.slice p.A m p.cap) m (bcells (p.l.take 100)) w2 := by
          have := (bcells_take f5 100).src (c := p.cap) Tryd.underlying24 (bcells_one _)
          rwa [bcells_len, ← Hm.out] at this
        have HS := Lib.hid hsrc
        have HO3 := Lib.hid hown2
        have HO4 := Lib.hid hownb2
        have HK2 := Lib.hid hk2
        have Hne2 := Lib.hid hne2
        clear hown' hg hb hown2 hownb2 hk2 hne2 hg2 f5 hsrc
        go_wp2_with (at_builtin; refine byte_elem.list_append rfl (.tmp 30) (.tmp 31) _ rfl rfl HO4.out rfl HS.out ?c3 ?c4 hwz2 ?_)
        case c3 => unfold maxLen; omega
        case c4 => omega
        intro v' w3 hown' hg hb
        have hownb3 : OwnB w3 w.heap.size v' (joined (someP ps (k + 1))) := by
          rw [H.out, joined_append]
          have e : joined [shortP p] = p.l.take 100 := by simp [joined, shortP]
          rw [e]
          exact OwnB.snoc hown' (by rw [List.length_append, Hm.out]) rfl
        have hown3 : w3.ownsRow w.heap.size 24 1 u' (k + 1) ((someP ps (k + 1)).map Part.val) := World.ownsRow.kept HO3.out hg Hne2.out.symm.ne
        have hk3 : Keeps (fun _ => True) w w3 := HK2.out.grown hg fun b hb => (World.ownsRow.lt HO4.out b hb).1
        have hne3 : ApartV u' v' := (Hne2.out.symm.grown (n := w2.heap.size) (fun b hb => (HO3.out.lt b hb).2) (Nat.le_refl _) hb).symm
        have HA := Lib.hid hown3
        have HB2 := Lib.hid hownb3
        have HC := Lib.hid hne3
        have HD := Lib.hid hk3
        clear hown' hg hb hown3 hownb3 hne3 hk3
        go_wp2
        go_roundw
        case rel => exact ⟨k + 1, by omega, by omega, by go_num, HA.out, HB2.out, HC.out, HD.out⟩
        case measure => simp [intOf]; omega
      · have hlk := someP_len ps k hk
        obtain ⟨BB, dd, rfl, -, rowB⟩ := own_slice hown
        obtain ⟨AA, cc, rfl, -, rowA⟩ := own_slice hownb
        have hjl := joined_len ps k
        have hparts : Parts wr (fun b => b < w.heap.size) (someP ps k) := by
          intro q hq
          obtain ⟨p, hp, rfl⟩ := List.mem_map.1 hq
          have hf := HF.out p (List.mem_of_mem_take hp)
          exact ⟨bcells_take (hf.row.keep (hkp.mono fun _ _ _ => trivial)) 100, by simp only [shortP]; rw [List.length_take]; unfold maxLen; omega⟩
        have hTr := HT.out.keep hkp
        have H1 := Lib.hid rowB
        have H2 := Lib.hid rowA
        have H3 := Lib.hid hparts
        have H4 := Lib.hid hTr
        have H5 := Lib.hid hkp
        have H6 := Lib.hid hlk.symm
        obtain ⟨J, hJ⟩ : ∃ J, J = (joined (someP ps k)).length := ⟨_, rfl⟩
        rw [← hJ] at hjl
        have H7 := Lib.hid hJ
        clear rowB rowA hparts hTr hkp hown hownb hne hlk
        rw [← hJ]
        clear hJ
        go_wp2_with fail
        ((with_reducible refine (sum_at BB k dd (fun b => b < w.heap.size) _ (someP ps k) _ H6.out H1.out H3.out ?c1 H4.out).mono ?_))
        case c1 => unfold maxLen; omega
        rintro e w' ⟨rfl, rfl⟩
        go_wp2_with fail
        ((with_reducible refine (rsum_at AA J cc _ _ _ H7.out H2.out ?c2).mono ?_))
        case c2 => unfold maxLen; omega
        rintro e w' ⟨rfl, rfl⟩
        go_wp2_with fail
        ((with_reducible refine (sum_new AA cc (joined (someP ps k)) J H7.out _ _ _ rfl H2.out ?c3 H4.out).mono ?_))
        case c3 => rw [← H7.out]; unfold maxLen; omega
        rintro e w' ⟨rfl, rfl⟩
        go_wp2_with fail
        ((with_reducible refine (rsum_at AA J cc _ _ _ H7.out (H2.out.alloc _) ?c4).mono ?_))
        case c4 => unfold maxLen; omega
        rintro e w' ⟨rfl, rfl⟩
        go_wp2
        go_ret
        exact ⟨rfl, (H5.out.alloc _).below⟩
    · have hlk := someP_len ps k hk
      obtain ⟨BB, dd, rfl, -, rowB⟩ := own_slice hown
      obtain ⟨AA, cc, rfl, -, rowA⟩ := own_slice hownb
      have hjl := joined_len ps k
      have hparts : Parts wr (fun b => b < w.heap.size) (someP ps k) := by
        intro q hq
        obtain ⟨p, hp, rfl⟩ := List.mem_map.1 hq
        have hf := HF.out p (List.mem_of_mem_take hp)
        exact ⟨bcells_take (hf.row.keep (hkp.mono fun _ _ _ => trivial)) 100, by simp only [shortP]; rw [List.length_take]; unfold maxLen; omega⟩
      have hTr := HT.out.keep hkp
      have H1 := Lib.hid rowB
      have H2 := Lib.hid rowA
      have H3 := Lib.hid hparts
      have H4 := Lib.hid hTr
      have H5 := Lib.hid hkp
      have H6 := Lib.hid hlk.symm
      obtain ⟨J, hJ⟩ : ∃ J, J = (joined (someP ps k)).length := ⟨_, rfl⟩
      rw [← hJ] at hjl
      have H7 := Lib.hid hJ
      clear rowB rowA hparts hTr hkp hown hownb hne hlk
      rw [← hJ]
      clear hJ
      go_wp2_with fail
      ((with_reducible refine (sum_at BB k dd (fun b => b < w.heap.size) _ (someP ps k) _ H6.out H1.out H3.out ?c1 H4.out).mono ?_))
      case c1 => unfold maxLen; omega
      rintro e w' ⟨rfl, rfl⟩
      go_wp2_with fail
      ((with_reducible refine (rsum_at AA J cc _ _ _ H7.out H2.out ?c2).mono ?_))
      case c2 => unfold maxLen; omega
      rintro e w' ⟨rfl, rfl⟩
      go_wp2_with fail
      ((with_reducible refine (sum_new AA cc (joined (someP ps k)) J H7.out _ _ _ rfl H2.out ?c3 H4.out).mono ?_))
      case c3 => rw [← H7.out]; unfold maxLen; omega
      rintro e w' ⟨rfl, rfl⟩
      go_wp2_with fail
      ((with_reducible refine (rsum_at AA J cc _ _ _ H7.out (H2.out.alloc _) ?c4).mono ?_))
      case c4 => unfold maxLen; omega
      rintro e w' ⟨rfl, rfl⟩
      go_wp2
      go_ret
      exact ⟨rfl, (H5.out.alloc _).below⟩
end Go.Proofs.YtfcbiaedhidibaaDoor.crcParts
