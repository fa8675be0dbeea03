/-
  THE PROGRAM's LOG: parse, cut.
-/
import Derived.Test.YtgdbkmecfbkobaaDoorSlgStream
namespace Go.Proofs.YtgdbkmecfbkobaaDoor
open Go Go.RowKit Go.Joins

/-- The first k ends. -/
def endsT (rs : List LRec) (k : Nat) : List Value := (endsC rs).take k
theorem endsT_next (rs : List LRec) (k : Nat) (h : k < rs.length) : endsT rs (k + 1) = endsT rs k ++ [.int .i64 (endAt rs (k + 1) : Int)] := by
  unfold endsT
  rw [take_next _ _ (by rw [endsC_len]; exact h)]
  congr 1
  have := endsC_at rs k h
  rw [List.getElem?_eq_getElem (by rw [endsC_len]; exact h)] at this
  injection this with this
  rw [this]
theorem endsT_all (rs : List LRec) : endsT rs rs.length = endsC rs := by
  unfold endsT; rw [List.take_of_length_le (by rw [endsC_len]; exact Nat.le_refl _)]
theorem getT_nil : getT [] = ([], 0, 2) := by
  have h : getZ [] = (0, 0, 2) := by unfold getZ vget; rfl
  exact getT_err h (by decide)
theorem getT_rec (rs : List LRec) (i : Nat) (h : i < rs.length) (hb : rs[i].body.length ≤ 300) : getT ((strm rs).drop (endAt rs i)) = (rs[i].body, endAt rs (i + 1) - endAt rs i, 0) := by
  rw [strm_at rs i h, getT_put _ _ (by omega), endAt_next rs i h, Nat.add_sub_cancel_left]

set_option maxRecDepth 100000 in
set_option maxHeartbeats 2000000 in
theorem parse_seg (w : World) (sl f : Nat) (g o c : Nat) (G : Nat → Prop) (rs : List LRec) (hr : Row w (some ⟨g, o, none⟩) G (bcells (strm rs))) (hlc : (strm rs).length ≤ c) (hcm : c ≤ maxLen) (hlen : (strm rs).length ≤ 424) (hone : ∀ r ∈ rs, 1 ≤ r.body.length ∧ r.body.length ≤ 300) :
    Calls Tryd.prog 73 #[.int .i64 (sl : Int), .int .i64 (f : Int), .slice (some ⟨g, o, none⟩) (strm rs).length c] w fun e w' => ∃ E, e = .returned (.agg #[.int .i64 (sl : Int), .int .i64 (f : Int), E]) ∧ w'.ownsRow w.heap.size 3 1 E rs.length (endsC rs) ∧ Kp w w' := by
  have hcm' := hcm
  unfold maxLen at hcm'
  have hcnt := strm_count rs fun r h => (hone r h).1
  have HR := Lib.hid hr
  have HONE := Lib.hid hone
  have hk0 : Kp w ((w.alloc (.cells #[.int .i64 0, .int .i64 0, .slice none 0 0] 67)).alloc (.cells #[.int .i64 (sl : Int), .int .i64 (f : Int), .slice none 0 0] 67)) := ((Keeps.refl _ w).alloc _).alloc _
  have hb6 : ((w.alloc (.cells #[.int .i64 0, .int .i64 0, .slice none 0 0] 67)).alloc (.cells #[.int .i64 (sl : Int), .int .i64 (f : Int), .slice none 0 0] 67)).heap[w.heap.size]? = some (.cells #[.int .i64 0, .int .i64 0, .slice none 0 0] 67 (0, 0)) :=
    (Below.heap_alloc _ _ _ (by simp)).trans (heap_alloc_new w _)
  have hb7 : ((w.alloc (.cells #[.int .i64 0, .int .i64 0, .slice none 0 0] 67)).alloc (.cells #[.int .i64 (sl : Int), .int .i64 (f : Int), .slice none 0 0] 67)).heap[w.heap.size + 1]? = some (.cells #[.int .i64 (sl : Int), .int .i64 (f : Int), .slice none 0 0] 67 (0, 0)) := by
    have h := heap_alloc_new (w.alloc (.cells #[.int .i64 0, .int .i64 0, .slice none 0 0] 67)) (.cells #[.int .i64 (sl : Int), .int .i64 (f : Int), .slice none 0 0] 67)
    rwa [World.size_alloc] at h
  have hz0 : ((w.alloc (.cells #[.int .i64 0, .int .i64 0, .slice none 0 0] 67)).alloc (.cells #[.int .i64 (sl : Int), .int .i64 (f : Int), .slice none 0 0] 67)).heap.size = w.heap.size + 2 := by simp
  have HK0 := Lib.hid hk0
  have HB6 := Lib.hid hb6
  have HB7 := Lib.hid hb7
  have HZ0 := Lib.hid hz0
  clear hr hone hk0 hb6 hb7 hz0
  obtain ⟨N, hN⟩ : ∃ N, (strm rs).length = N := ⟨_, rfl⟩
  have HN := Lib.hid hN
  rw [hN] at hlc hlen hcnt ⊢
  clear hN
  go_enter Tryd.func73, Tryd.ntmps73
  go_wp2_with fail
  go_loopw [8] (fun va wr => ∃ (k : Nat) (E : Value) (fr : Nat × Nat), k ≤ rs.length ∧ va = .int .i64 (endAt rs k : Int) ∧ wr.ownsRow (w.heap.size + 2) 3 1 E k (endsT rs k) ∧ wr.heap[w.heap.size + 1]? = some (.cells #[.int .i64 (sl : Int), .int .i64 (f : Int), E] 67 (0, 0)) ∧ wr.heap[w.heap.size]? = some (.cells #[.int .i64 0, .int .i64 0, .slice none 0 0] 67 (0, 0)) ∧ Kp w wr ∧ w.heap.size + 2 ≤ wr.heap.size) (fun va _ => N + 1 - (intOf va).toNat)
  case atStart =>
    refine ⟨0, .slice none 0 0, (0, 0), Nat.zero_le _, by rw [endAt_zero]; rfl, ?_, HB7.out, HB6.out, HK0.out, by rw [HZ0.out]; exact Nat.le_refl _⟩
    exact World.ownsRow_nil _ _ _ _
  case round =>
    obtain ⟨k, E, fr, hk, rfl, ho, hb7, hb6, hkp, hzr⟩ := hrel
    have hrow := HR.out.keep (hkp.mono fun _ _ _ => trivial)
    have hez := endAt_le rs k
    rw [HN.out] at hez
    by_cases hlt : k < rs.length
    · have hez1 := endAt_lt rs k hlt
      have hez2 := endAt_le rs (k + 1)
      rw [HN.out] at hez2
      have hob := HONE.out _ (List.getElem_mem hlt)
      have hgt := get_text (some ⟨g, o + endAt rs k, none⟩) (c - endAt rs k) _ ((strm rs).drop (endAt rs k)) wr (cut_end (n := N) (k := endAt rs k) (c := c) hrow HN.out (by omega) (.inr ⟨by omega, hlc⟩)) (by rw [List.length_drop, HN.out]; omega) (by rw [List.length_drop, HN.out]; omega) (by omega)
      rw [getT_rec rs k hlt hob.2, List.length_drop, HN.out] at hgt
      simp only at hgt
      have hnx := endsT_next rs k hlt
      generalize hz : endAt rs k = z at hgt hez hez1 ⊢
      generalize hz1 : endAt rs (k + 1) = z1 at hgt hnx hez1 hez2
      obtain ⟨d, rfl⟩ : ∃ d, z1 = z + d := ⟨z1 - z, by omega⟩
      rw [Nat.add_sub_cancel_left] at hgt
      have HZ1 := Lib.hid hz1
      generalize rs[k].body = y at hgt hob
      have hne : ¬ c = z := by omega
      have hle : z ≤ N := by omega
      have hle2 : z ≤ c := by omega
      have HGT := Lib.hid hgt
      have HNX := Lib.hid hnx
      have HO := Lib.hid ho
      have HB7r := Lib.hid hb7
      have HB6r := Lib.hid hb6
      have HKr := Lib.hid hkp
      have hfit := Lib.hid (fits_any wr y.length (by unfold maxLen; omega))
      have hfd : decide (1 ≤ y.length ∧ y.length ≤ 300) = true := by simp; omega
      have hty := txt_size y
      have c2 := (cell_of_block hb7 2).trans rfl
      have hsz1 : w.heap.size + 2 ≤ (wr.alloc (.cells #[.int .i64 ((z : Int) + (d : Int))] 3)).heap.size := by simp; omega
      clear hgt hnx ho hb7 hb6 hkp hz hz1 hrow
      go_wp2_with fail
      refine HGT.out.mono ?_
      rintro e' w' ⟨rfl, rfl⟩
      rw [show ((0 : Nat) : Int) = 0 from rfl]
      go_wp2_with fail
      rw [hty] at *
      refine hfit.out.mono ?_
      rintro e' w' ⟨rfl, rfl⟩
      rw [hfd]
      go_wp2_with (at_builtin; refine int_elem.list_append rfl (.tmp 36) (.tmp 38) _ rfl rfl (HO.out.alloc _) rfl (src_one Tryd.underlying65 _ _ _ rfl _ rfl _) ?c3 ?c4 hsz1 ?_)
      case c3 => unfold maxLen; omega
      case c4 => omega
      intro v3 w3 ho3 hg3 hb3
      have hownE := HO.out
      have hg3' := grown_of_alloc hg3
      have hk3 : Kp w w3 := HKr.out.grown hg3' fun b hb => by have := (hownE.lt b hb).1; omega
      have hkE : Keeps (fun b => E.ownBlock ≠ some b) wr w3 := Keeps.of_grown hg3' fun b hb _ hn => hn hb
      have hb73 := (hkE.block _ (fun e => by have := (hownE.lt _ e).1; omega) (by omega)).trans HB7r.out
      have hb63 := (hkE.block _ (fun e => by have := (hownE.lt _ e).1; omega) (by omega)).trans HB6r.out
      have ho3' : w3.ownsRow (w.heap.size + 2) 3 1 v3 (k + 1) (endsT rs (k + 1)) := by
        rw [HNX.out]
        have e : (((z + d : Nat)) : Int) = (z : Int) + (d : Int) := by omega
        rw [e]
        exact ho3
      have c23 : w3.cell? ⟨w.heap.size + 1, 2, none⟩ = some E := (cell_of_block hb73 2).trans rfl
      have f23 := unfrozen_of_block hb73 2
      have hb74 := block_setCell hb73 (i := 2) v3
      have hb64 : (w3.setCell ⟨w.heap.size + 1, 2, none⟩ v3).heap[w.heap.size]? = _ := (Below.heap_setCell w3 ⟨w.heap.size + 1, 2, none⟩ v3 w.heap.size (by show w.heap.size ≠ w.heap.size + 1; omega)).trans hb63
      have hk4 : Kp w (w3.setCell ⟨w.heap.size + 1, 2, none⟩ v3) := hk3.setCell (.inl (by show w.heap.size ≤ w.heap.size + 1; omega)) _
      have hk34 : Keeps (fun b => b ≠ w.heap.size + 1) w3 (w3.setCell ⟨w.heap.size + 1, 2, none⟩ v3) := (Keeps.refl _ w3).setCell (.inr fun hn => hn rfl) _
      have HO4 := Lib.hid (hk34.own ho3' fun b hb => by have := (ho3'.lt b hb).1; omega)
      have HB74 := Lib.hid hb74
      have HB64 := Lib.hid hb64
      have HK4 := Lib.hid hk4
      have HS4 := Lib.hid (show w.heap.size + 2 ≤ (w3.setCell ⟨w.heap.size + 1, 2, none⟩ v3).heap.size from Nat.le_trans hzr (Nat.le_trans hkE.size hk34.size))
      have HC := Lib.hid (show v3.oneCell' = true from by
        obtain ⟨A3, c3, e3, -, -⟩ := own_slice ho3'
        rw [e3]; rfl)
      obtain ⟨A3, c3, rfl, -, -⟩ := own_slice ho3'
      clear ho3 hg3 hb3 hownE hg3' hk3 hkE hb73 hb63 ho3' hb74 hb64 hk4 hk34 c2 HO HB7r HB6r HKr
      go_wp2_with fail
      go_roundw
      case rel =>
        refine ⟨k + 1, _, (0, 0), by omega, ?_, HO4.out, HB74.out, HB64.out, HK4.out, HS4.out⟩
        rw [HZ1.out]; go_num
      case measure => simp [intOf]; omega
    · obtain rfl : k = rs.length := by omega
      have hend : (strm rs).drop (endAt rs rs.length) = [] := by rw [endAt_len]; exact List.drop_eq_nil_of_le (Nat.le_refl _)
      have hz : endAt rs rs.length = N := by rw [endAt_len]; exact HN.out
      rw [endsT_all] at ho
      rw [hz]
      have HGT := Lib.hid (fun (A : Option Addr) (cc : Nat) (h0 : cc ≤ maxLen) => (show Calls Tryd.prog 65 #[.slice A 0 cc] wr fun e w' => e = .returned (.tuple #[.string (txt []), .int .i64 0, .int .i64 2]) ∧ wr = w' from by
        have h := get_text A cc (fun _ => True) [] wr (Row.nil _ _ _) (by simp) (by simp) h0
        rw [getT_nil] at h
        exact h))
      have hcs : c = N ∨ (¬ c = N ∧ ¬ c ≤ N) := by omega
      have hle : N ≤ c := hlc
      have c70 := (cell_of_block hb7 0).trans rfl
      have c71 := (cell_of_block hb7 1).trans rfl
      have c72 := (cell_of_block hb7 2).trans rfl
      have c60 := (cell_of_block hb6 0).trans rfl
      have c61 := (cell_of_block hb6 1).trans rfl
      have c62 := (cell_of_block hb6 2).trans rfl
      have f60 := unfrozen_of_block hb6 0
      have f61 := unfrozen_of_block hb6 1
      have f62 := unfrozen_of_block hb6 2
      have HFIN := Lib.hid (show ∀ v0 v1 v2, (((wr.setCell ⟨w.heap.size, 0, none⟩ v0).setCell ⟨w.heap.size, 1, none⟩ v1).setCell ⟨w.heap.size, 2, none⟩ v2).ownsRow w.heap.size 3 1 E rs.length (endsC rs) ∧ Kp w (((wr.setCell ⟨w.heap.size, 0, none⟩ v0).setCell ⟨w.heap.size, 1, none⟩ v1).setCell ⟨w.heap.size, 2, none⟩ v2) from fun v0 v1 v2 => by
        have hk : Keeps (fun b => b ≠ w.heap.size) wr (((wr.setCell ⟨w.heap.size, 0, none⟩ v0).setCell ⟨w.heap.size, 1, none⟩ v1).setCell ⟨w.heap.size, 2, none⟩ v2) := (((Keeps.refl _ wr).setCell (.inr fun hn => hn rfl) _).setCell (.inr fun hn => hn rfl) _).setCell (.inr fun hn => hn rfl) _
        refine ⟨ownsRow_le (hk.own ho fun b hb => by have := (ho.lt b hb).1; omega) (by omega), ((hkp.setCell (.inl (Nat.le_refl _)) _).setCell (.inl (Nat.le_refl _)) _).setCell (.inl (Nat.le_refl _)) _⟩)
      have HCELL := Lib.hid (show ∀ v0 v1 v2, (((wr.setCell ⟨w.heap.size, 0, none⟩ v0).setCell ⟨w.heap.size, 1, none⟩ v1).setCell ⟨w.heap.size, 2, none⟩ v2).cell? ⟨w.heap.size, 0, none⟩ = some v0 ∧ (((wr.setCell ⟨w.heap.size, 0, none⟩ v0).setCell ⟨w.heap.size, 1, none⟩ v1).setCell ⟨w.heap.size, 2, none⟩ v2).cell? ⟨w.heap.size, 1, none⟩ = some v1 ∧ (((wr.setCell ⟨w.heap.size, 0, none⟩ v0).setCell ⟨w.heap.size, 1, none⟩ v1).setCell ⟨w.heap.size, 2, none⟩ v2).cell? ⟨w.heap.size, 2, none⟩ = some v2 from fun v0 v1 v2 => by
        have h1 := block_setCell (block_setCell (block_setCell hb6 (i := 0) v0) (i := 1) v1) (i := 2) v2
        exact ⟨(cell_of_block h1 0).trans rfl, (cell_of_block h1 1).trans rfl, (cell_of_block h1 2).trans rfl⟩)
      obtain ⟨AE, cE, rfl, -, -⟩ := own_slice ho
      clear ho hb7 hb6 hkp hrow hend
      rcases hcs with rfl | ⟨hc1, hc2⟩
      · go_wp2_with fail
        refine (HGT.out _ _ ?hc).mono ?_
        case hc => omega
        rintro e' w' ⟨rfl, rfl⟩
        go_wp2_with fail
        exact bodyPost_ret (v := .agg #[.int .i64 (sl : Int), .int .i64 (f : Int), .slice AE rs.length cE]) (by simp [results, Tryd.results73, go_sem, HCELL.out]) rfl ⟨_, rfl, (HFIN.out _ _ _).1, (HFIN.out _ _ _).2⟩
      · go_wp2_with fail
        refine (HGT.out _ _ ?hc).mono ?_
        case hc => omega
        rintro e' w' ⟨rfl, rfl⟩
        go_wp2_with fail
        exact bodyPost_ret (v := .agg #[.int .i64 (sl : Int), .int .i64 (f : Int), .slice AE rs.length cE]) (by simp [results, Tryd.results73, go_sem, HCELL.out]) rfl ⟨_, rfl, (HFIN.out _ _ _).1, (HFIN.out _ _ _).2⟩

end Go.Proofs.YtgdbkmecfbkobaaDoor
