/-
  THE PROGRAM's TWO SLOTS: Save.
-/
import Derived.Test.YtpaadllbmhbnhaaDoorSuperSave
import Derived.Test.YtpaadllbmhbnhaaDoorSuperLocs
import Derived.RegionTactic
import Derived.ChangeAlike
import Derived.BigRegion
namespace Go.Proofs.YtpaadllbmhbnhaaDoor
open Go Go.RowKit Go.Joins

/-- Bytes beside the device's blocks. -/
def TextF (F : Foot) (l : List UInt8) : World → Value → Prop := fun w v => ∃ A c, v = .slice A l.length c ∧ l.length ≤ c ∧ Row w A (fun b => ¬ F.all b) (bcells l)
theorem TextF.keep {F : Foot} {l : List UInt8} {w w' : World} {v : Value} (h : Keeps (fun b => ¬ F.M b) w w') (hv : TextF F l w v) : TextF F l w' v := by
  obtain ⟨A, c, e, h1, hr⟩ := hv
  exact ⟨A, c, e, h1, hr.keep (h.mono fun b _ hb hm => hb (.inl hm))⟩
/-- Ahead of the writing, behind it. -/
def StS (w1 : World) (p : Nat) (F : Foot) (s s' : SDev) : Bool → World → Prop
  | false, w => DAt w p F s ∧ Keeps (fun _ => True) w1 w
  | true, w => ∃ F', DAt w p F' s' ∧ Step F F' w1 w
theorem StS.keep {w1 w w' : World} {p : Nat} {F : Foot} {s s' : SDev} {b : Bool} (h : Kp w w') (hs : StS w1 p F s s' b w) : StS w1 p F s s' b w' := by
  cases b
  · exact ⟨hs.1.keep (h.mono fun _ _ _ => trivial), hs.2.trans h⟩
  · obtain ⟨F', h1, h2⟩ := hs
    exact ⟨F', h1.keep (h.mono fun _ _ _ => trivial), h2.trans (Step.of_keeps h F')⟩
theorem StS.kp {w1 w : World} {p : Nat} {F : Foot} {s s' : SDev} (b : Bool) (hs : StS w1 p F s s' b w) : Keeps (fun b => ¬ F.M b) w1 w := by
  cases b
  · exact hs.2.mono fun _ _ _ => trivial
  · obtain ⟨F', h1, h2⟩ := hs
    exact h2.keeps
def VS (q p sp r t : Nat) (l : List UInt8) (F : Foot) : Nat → World → Value → Prop
  | 0 => IsV (.pointer (some ⟨q, 0, none⟩))
  | 1 => IsV (.pointer (some ⟨q, 0, none⟩))
  | 2 => IsV (.pointer (some ⟨q, 2, none⟩))
  | 3 => IsV (.pointer (some ⟨p, 0, none⟩))
  | 4 => IsV (.pointer (some ⟨q, 0, none⟩))
  | 5 => IsV (.pointer (some ⟨q, 0, none⟩))
  | 6 => IsV (.pointer (some ⟨q, 4, none⟩))
  | 7 => IsV (.int .i64 (sp : Int))
  | 8 => IsV (.agg #[.int .i64 ((t + 1 : Nat) : Int), .string (txt l)])
  | 9 => TextF F (encS (t + 1) l)
  | 10 => IsV (.int .i64 0)
  | 11 => IsV (.int .i64 0)
  | _ => fun _ _ => True
theorem VS_keep {q p sp r t : Nat} {l : List UInt8} {F : Foot} (i : Nat) (w w' : World) (v : Value) (h : Keeps (fun b => ¬ F.M b) w w') (hv : VS q p sp r t l F i w v) : VS q p sp r t l F i w' v := by
  match i, hv with
  | 0, hv => exact hv
  | 1, hv => exact hv
  | 2, hv => exact hv
  | 3, hv => exact hv
  | 4, hv => exact hv
  | 5, hv => exact hv
  | 6, hv => exact hv
  | 7, hv => exact hv
  | 8, hv => exact hv
  | 9, hv => exact TextF.keep h hv
  | 10, hv => exact hv
  | 11, hv => exact hv
  | n + 12, _ => trivial
section
variable {o : Oper} {a : Act} {w : World} {Q : Exit → Act → World → Prop} {x y : Operand}
theorem kp_nil {p : Addr} (ho : o.op = .nilCheck x) (hx : a.eval x = .pointer (some p)) : o.wp Tryd.prog a w (fun a' w' => ∃ v, a' = a.put o.dst v ∧ Kp w w' ∧ IsV (.pointer (some p)) w' v) Q := by
  refine kp_yield (v := .pointer (some p)) (w' := w) ?_ (Keeps.refl _ _) rfl
  generalize a.eval = ρ at hx ⊢
  unfold execOp
  rw [ho]
  go_simp
theorem kp_fieldS1 {b : Nat} (ho : o.op = .fieldAddr 54 x 1) (hx : a.eval x = .pointer (some ⟨b, 0, none⟩)) : o.wp Tryd.prog a w (fun a' w' => ∃ v, a' = a.put o.dst v ∧ Kp w w' ∧ IsV (.pointer (some ⟨b, 2, none⟩)) w' v) Q := by
  refine kp_yield (v := .pointer (some ⟨b, 2, none⟩)) (w' := w) ?_ (Keeps.refl _ _) rfl
  generalize a.eval = ρ at hx ⊢
  unfold execOp
  rw [ho]
  go_simp
theorem kp_fieldS3 {b : Nat} (ho : o.op = .fieldAddr 54 x 3) (hx : a.eval x = .pointer (some ⟨b, 0, none⟩)) : o.wp Tryd.prog a w (fun a' w' => ∃ v, a' = a.put o.dst v ∧ Kp w w' ∧ IsV (.pointer (some ⟨b, 4, none⟩)) w' v) Q := by
  refine kp_yield (v := .pointer (some ⟨b, 4, none⟩)) (w' := w) ?_ (Keeps.refl _ _) rfl
  generalize a.eval = ρ at hx ⊢
  unfold execOp
  rw [ho]
  go_simp
theorem kp_loadP {p : Addr} {u : Addr} (hc : w.cell? p = some (.pointer (some u))) (ho : o.op = .load 25 x) (hx : a.eval x = .pointer (some p)) : o.wp Tryd.prog a w (fun a' w' => ∃ v, a' = a.put o.dst v ∧ Kp w w' ∧ IsV (.pointer (some u)) w' v) Q := by
  refine kp_yield (v := .pointer (some u)) (w' := w) ?_ (Keeps.refl _ _) rfl
  generalize a.eval = ρ at hx ⊢
  unfold execOp
  rw [ho]
  go_simp
theorem kp_loadN {p : Addr} {n : Int} (hc : w.cell? p = some (.int .i64 n)) (ho : o.op = .load 3 x) (hx : a.eval x = .pointer (some p)) : o.wp Tryd.prog a w (fun a' w' => ∃ v, a' = a.put o.dst v ∧ Kp w w' ∧ IsV (.int .i64 n) w' v) Q := by
  refine kp_yield (v := .int .i64 n) (w' := w) ?_ (Keeps.refl _ _) rfl
  generalize a.eval = ρ at hx ⊢
  unfold execOp
  rw [ho]
  go_simp
theorem kp_loadR {r : Nat} {n : Int} {s : ByteArray} (h0 : w.cell? ⟨r, 0, none⟩ = some (.int .i64 n)) (h1 : w.cell? ⟨r, 1, none⟩ = some (.string s)) (ho : o.op = .load 52 x) (hx : a.eval x = .pointer (some ⟨r, 0, none⟩)) : o.wp Tryd.prog a w (fun a' w' => ∃ v, a' = a.put o.dst v ∧ Kp w w' ∧ IsV (.agg #[.int .i64 n, .string s]) w' v) Q := by
  refine kp_yield (v := .agg #[.int .i64 n, .string s]) (w' := w) ?_ (Keeps.refl _ _) rfl
  generalize a.eval = ρ at hx ⊢
  unfold execOp
  rw [ho]
  go_simp
end

set_option maxRecDepth 100000 in
set_option maxHeartbeats 4000000 in
theorem ssave_yes (w : World) (hT : Taken w) (q p lat sp t : Nat) (x : List UInt8) (hb : SBlk w q p lat sp t x) (F : Foot) (s : SDev) (hd : DAt w p F s) (hq : ¬ F.all q) (HTM : ¬ F.M 0) (hsp : sp < s.now.length) (hlat : lat ≤ 4096) (ht : t ≤ 549755813888) (hcalls : s.calls ≤ 549755813888 + 100)
    (A : Option Addr) (c : Nat) (G : Nat → Prop) (l : List UInt8) (hr : Row w A G (bcells l)) (hG : ∀ b, G b → ¬ F.all b) (hGq : ∀ b, G b → b ≠ q) (hlc : l.length ≤ c) (hc : c ≤ maxLen) (hl : l.length ≤ 40) :
    Calls Tryd.prog 13 #[.pointer (some ⟨q, 0, none⟩), .slice A l.length c] w fun e w' => e = .returned (.int .i64 0) ∧ ∃ F', DAt w' p F' (SDev.still (s.now.set sp (encS (t + 1) l)) (s.calls + 2)) ∧ SBlk w' q p sp lat (t + 1) l ∧
      Keeps (fun b => ¬ F.M b ∧ b ≠ q) w w' ∧ (∀ b, F'.M b → F.M b ∨ w.heap.size ≤ b) ∧ (∀ b, F'.I b → F.all b ∨ w.heap.size ≤ b) := by
  have hsm := hd.ok.small
  have c0 : w.cell? ⟨q, 0, none⟩ = some (.int .i64 (t : Int)) := (cell_of_block hb 0).trans rfl
  have c2 : w.cell? ⟨q, 2, none⟩ = some (.pointer (some ⟨p, 0, none⟩)) := (cell_of_block hb 2).trans rfl
  have c3 : w.cell? ⟨q, 3, none⟩ = some (.int .i64 (lat : Int)) := (cell_of_block hb 3).trans rfl
  have c4 : w.cell? ⟨q, 4, none⟩ = some (.int .i64 (sp : Int)) := (cell_of_block hb 4).trans rfl
  have hcv : (convert 31 9 (.slice A l.length c)).run Tryd.prog w.drew = .ok (.string (txt l)) w.drew := (hr.keep (Keeps.refl G w).drew).to_string (P := Tryd.prog) Tryd.underlying31 Tryd.underlying5 Tryd.underlying9 l.length c rfl
  have hcv2 : ∀ o, (convert 31 9 (.slice A l.length c)).run Tryd.prog (w.alloc o).drew = .ok (.string (txt l)) (w.alloc o).drew := fun o => (hr.keep ((Keeps.refl G w).alloc o).drew).to_string (P := Tryd.prog) Tryd.underlying31 Tryd.underlying5 Tryd.underlying9 l.length c rfl
  have hqlt : q < w.heap.size := (Array.getElem?_eq_some_iff.1 hb).1
  have HD := Lib.hid hd
  have HB := Lib.hid hb
  have HT := Lib.hid hT
  unfold maxLen at hc
  have HR := Lib.hid hr
  clear hb hd hT hr
  go_enter Tryd.func13, Tryd.ntmps13
  go_wp2_with fail
  go_region
  have hk1 : Keeps (fun _ => True) w (w.alloc (.cells #[.int .i64 ((t : Int) + 1), .string (txt l)] 52)).drew := ((Keeps.refl _ w).alloc _).drew
  have hr1 : (w.alloc (.cells #[.int .i64 ((t : Int) + 1), .string (txt l)] 52)).drew.heap[w.heap.size]? = some (.cells #[.int .i64 ((t + 1 : Nat) : Int), .string (txt l)] 52 (0, 0)) := heap_alloc_new w _
  have hz1 : (w.alloc (.cells #[.int .i64 ((t : Int) + 1), .string (txt l)] 52)).drew.heap.size = w.heap.size + 1 := by simp
  generalize (w.alloc (.cells #[.int .i64 ((t : Int) + 1), .string (txt l)] 52)).drew = w1 at hk1 hr1 hz1 ⊢
  have HD1 := Lib.hid (HD.out.keep (hk1.mono fun _ _ _ => trivial))
  have HB1 := Lib.hid (HB.out.keep hk1 trivial)
  have HT1 := Lib.hid (HT.out.keep hk1)
  have HR1 := Lib.hid hr1
  have HK1 := Lib.hid hk1
  have HZ1 := Lib.hid hz1
  have HQ := Lib.hid (show ¬ F.M q from fun h => hq (.inl h))
  have HRF := Lib.hid (show ∀ b, F.all b → b < w.heap.size from HD.out.lt)
  have HTF := Lib.hid (show ¬ F.M 0 from HTM)
  clear hk1 hr1 hz1 c0 c2 c3 c4 hcv hcv2 HD HB HT HR
  go_wp2_with fail
  refine wp_region_one (V := VS q p sp w.heap.size t l F) (w0 := w1) 10 (StS w1 p F s (s.write sp (encS (t + 1) l))) (fun w w' => Keeps (fun b => ¬ F.M b) w w') GE (by kernel_rfl) (fun i w w' v h hv => VS_keep i w w' v (h.mono fun _ _ _ => trivial) hv) (fun _ _ _ h hs => hs.keep h) (fun i _ w w' v h hv => VS_keep i w w' v h hv) (by kernel_rfl) (by decide) GE_is (fun i o ho hw => (all_wanted (by kernel_rfl) ho hw).elim) ⟨HD1.out.keep ((Keeps.refl _ w1).drew.mono fun _ _ _ => trivial), (Keeps.refl _ w1).drew⟩ (each_of ?_) ?_
  · refine ⟨?_, ?_, ?_, ?_, ?_, ?_, ?_, ?_, ?_, ?_, ?_, ?_, trivial⟩ <;> intro hw a1 w3 L
    · rw [if_neg (by decide)]
      intro b hs _
      exact kp_move rfl (L.old 0 (by kernel_rfl))
    · rw [if_neg (by decide)]
      intro b hs _
      exact kp_nil rfl (L.val 0 22 (by kernel_rfl) (by kernel_rfl))
    · rw [if_neg (by decide)]
      intro b hs _
      exact kp_fieldS1 rfl (L.val 1 23 (by kernel_rfl) (by kernel_rfl))
    · rw [if_neg (by decide)]
      intro b hs _
      exact kp_loadP ((cell_of_block (HB1.out.keep (StS.kp b hs) HQ.out) 2).trans rfl) rfl (L.val 2 24 (by kernel_rfl) (by kernel_rfl))
    · rw [if_neg (by decide)]
      intro b hs _
      exact kp_move rfl (L.old 0 (by kernel_rfl))
    · rw [if_neg (by decide)]
      intro b hs _
      exact kp_nil rfl (L.val 4 26 (by kernel_rfl) (by kernel_rfl))
    · rw [if_neg (by decide)]
      intro b hs _
      exact kp_fieldS3 rfl (L.val 5 27 (by kernel_rfl) (by kernel_rfl))
    · rw [if_neg (by decide)]
      intro b hs _
      exact kp_loadN ((cell_of_block (HB1.out.keep (StS.kp b hs) HQ.out) 4).trans rfl) rfl (L.val 6 28 (by kernel_rfl) (by kernel_rfl))
    · rw [if_neg (by decide)]
      intro b hs _
      have hblk := ((StS.kp b hs).block w.heap.size (fun hm => by have := HRF.out _ (.inl hm); omega) (by rw [HZ1.out]; omega)).trans HR1.out
      exact kp_loadR ((cell_of_block hblk 0).trans rfl) ((cell_of_block hblk 1).trans rfl) rfl (L.old 5 (by kernel_rfl))
    · rw [if_neg (by decide)]
      intro b hs _
      have e0 : a1.eval (.tmp 30) = .agg #[.int .i64 ((t + 1 : Nat) : Int), .string (txt l)] := L.val 8 30 (by kernel_rfl) (by kernel_rfl)
      have hf : a1.eval (.func 24) = .func (.func 24) #[] #[] := rfl
      have hT3 : Taken w3 := fun i hi => (StS.kp b hs).cell (HT1.out i hi) HTF.out
      have hsz := (StS.kp b hs).size
      refine kp_enter (f := 24) (args := #[.agg #[.int .i64 ((t + 1 : Nat) : Int), .string (txt l)]]) ?_ (sector_any w3 hT3 (t + 1) l (by omega) hl) ?_
      · clear hT3 hs hsz
        generalize a1.eval = ρ at e0 hf ⊢
        unfold execOp
        go_simp
      · rintro e w' ⟨v, rfl, ho, hk⟩
        obtain ⟨g, c, rfl, hbase, hlt⟩ := ho.form (by rw [encS_len (t + 1) l hl (by omega)]; decide)
        refine ⟨_, rfl, hk, _, _, rfl, (own_room ho).1, (own_row ho).mono fun b _ e hf => ?_⟩
        have := HRF.out b hf
        have := HZ1.out
        omega
    · rw [if_pos rfl]
      rintro ⟨hd, hk⟩
      obtain ⟨B, d, e3, hcd, hr⟩ := L.val 9 31 (by kernel_rfl) (by kernel_rfl)
      have e0 : a1.eval (.tmp 25) = .pointer (some ⟨p, 0, none⟩) := L.val 3 25 (by kernel_rfl) (by kernel_rfl)
      have e1 : a1.eval (.tmp 29) = .int .i64 (sp : Int) := L.val 7 29 (by kernel_rfl) (by kernel_rfl)
      have hf : a1.eval (.func 20) = .func (.func 20) #[] #[] := rfl
      refine one_enter (f := 20) (args := #[.pointer (some ⟨p, 0, none⟩), .int .i64 (sp : Int), .slice B (encS (t + 1) l).length d]) ?_ (dwrite_yes w3 p F s hd sp B d _ (encS (t + 1) l) hr (fun b hb => hb) hsp (by rw [encS_len (t + 1) l hl (by omega)]; decide) (by omega)) ?_
      · clear hd hk hr
        generalize a1.eval = ρ at e0 e1 e3 hf ⊢
        unfold execOp
        go_simp
      · rintro e w' ⟨rfl, F', hd', hst⟩
        exact ⟨_, rfl, hst.keeps, ⟨F', hd', (Step.of_keeps hk F).trans hst⟩, rfl⟩
    · rw [if_neg (by decide)]
      intro b hs _
      exact kp_assign rfl (L.val 10 32 (by kernel_rfl) (by kernel_rfl))
  · intro vs w8 hs8 hlen hv
    match vs, hlen with
    | [v0, v1, v2, v3, v4, v5, v6, v7, v8, v9, v10, v11], _ =>
      have e11 : v11 = .int .i64 0 := hv 11 6 (by kernel_rfl)
      clear hv
      subst e11
      simp only [putAll, List.map, Act.put, List.setIfInBounds_toArray, List.set_cons_succ, List.set_cons_zero, Exit.then]
      obtain ⟨F8, hd8, hst8⟩ := hs8
      have hb8 := HB1.out.keep hst8.keeps HQ.out
      have c2 : w8.cell? ⟨q, 2, none⟩ = some (.pointer (some ⟨p, 0, none⟩)) := (cell_of_block hb8 2).trans rfl
      have hf := dflush_any w8 p F8 _ hd8 (show s.calls + 1 ≤ _ by omega)
      rw [flush_is, write64_now s sp (encS (t + 1) l) (encS_len (t + 1) l hl (by omega)) (row64 HD1.out sp hsp)] at hf
      have HF := Lib.hid hf
      have HS8 := Lib.hid hst8
      clear hf hst8 hb8 hd8
      go_wp2_with fail
      refine HF.out.mono ?_
      rintro e w9 ⟨rfl, F9, hd9, hst9⟩
      have hst := HS8.out.trans hst9
      have hb9 : w9.heap[q]? = _ := HB1.out.keep hst.keeps HQ.out
      have hrc := (hst.keeps.block w.heap.size (fun hm => by have := HRF.out _ (.inl hm); omega) (by rw [HZ1.out]; omega)).trans HR1.out
      have r0 : w9.cell? ⟨w.heap.size, 0, none⟩ = some (.int .i64 ((t + 1 : Nat) : Int)) := (cell_of_block hrc 0).trans rfl
      have r1 : w9.cell? ⟨w.heap.size, 1, none⟩ = some (.string (txt l)) := (cell_of_block hrc 1).trans rfl
      have c0 : w9.cell? ⟨q, 0, none⟩ = some (.int .i64 (t : Int)) := (cell_of_block hb9 0).trans rfl
      have c1 : w9.cell? ⟨q, 1, none⟩ = some (.string (txt x)) := (cell_of_block hb9 1).trans rfl
      have f0 := unfrozen_of_block hb9 0
      have f1 := unfrozen_of_block hb9 1
      have hz9 := hst.keeps.size
      have hb10 := block_setCell (block_setCell hb9 (i := 0) (.int .i64 ((t : Int) + 1))) (i := 1) (.string (txt l))
      have hk10 : Keeps (fun b => b ≠ q) w9 ((w9.setCell ⟨q, 0, none⟩ (.int .i64 ((t : Int) + 1))).setCell ⟨q, 1, none⟩ (.string (txt l))) := ((Keeps.refl _ w9).setCell (.inr fun hn => hn rfl) _).setCell (.inr fun hn => hn rfl) _
      have HB10 := Lib.hid hb10
      have HK10 := Lib.hid hk10
      have HST := Lib.hid hst
      have HD9 := Lib.hid hd9
      clear hst hb9 hrc hz9 hb10 hk10 hd9 hst9 c2 HS8 HF HR1 HB1 HT1
      go_wp2_with fail
      have hb10 := HB10.out
      have hk10 := HK10.out
      clear HB10 HK10 c0 c1 f0 f1 r0 r1
      generalize ((w9.setCell ⟨q, 0, none⟩ (.int .i64 ((t : Int) + 1))).setCell ⟨q, 1, none⟩ (.string (txt l))) = w10 at hb10 hk10 ⊢
      have c3 : w10.cell? ⟨q, 3, none⟩ = some (.int .i64 (lat : Int)) := (cell_of_block hb10 3).trans rfl
      have c4 : w10.cell? ⟨q, 4, none⟩ = some (.int .i64 (sp : Int)) := (cell_of_block hb10 4).trans rfl
      have f3 := unfrozen_of_block hb10 3
      have f4 := unfrozen_of_block hb10 4
      have hfin : ∀ w11 : World, w11.heap[q]? = some (.cells #[.int .i64 ((t : Int) + 1), .string (txt l), .pointer (some ⟨p, 0, none⟩), .int .i64 (sp : Int), .int .i64 (lat : Int)] 54 (0, 0)) → Keeps (fun b => b ≠ q) w10 w11 →
          ∃ F', DAt w11 p F' (SDev.still (s.now.set sp (encS (t + 1) l)) (s.calls + 2)) ∧ SBlk w11 q p sp lat (t + 1) l ∧ Keeps (fun b => ¬ F.M b ∧ b ≠ q) w w11 ∧ (∀ b, F'.M b → F.M b ∨ w.heap.size ≤ b) ∧ (∀ b, F'.I b → F.all b ∨ w.heap.size ≤ b) := by
        intro w11 hb11 hk11
        have hst := HST.out
        have hk1 := HK1.out
        have hk := hk10.trans hk11
        have hqF : ¬ F9.all q := fun hf => by
          rcases hst.all q hf with h1 | h1
          · exact hq h1
          · have := HZ1.out; omega
        refine ⟨F9, HD9.out.keep (hk.mono fun b _ hb e => hqF (by rw [← e]; exact hb)), hb11, ?_, fun b hb => (hst.m b hb).imp id fun h1 => Nat.le_trans hk1.size h1, fun b hb => (hst.i b hb).imp id fun h1 => Nat.le_trans hk1.size h1⟩
        exact ((hk1.mono fun _ _ _ => trivial).trans (hst.keeps.mono fun b _ hb => hb.1)).trans (hk.mono fun b _ hb => hb.2)
      have hb11 := block_setCell (block_setCell hb10 (i := 3) (.int .i64 (sp : Int))) (i := 4) (.int .i64 (lat : Int))
      have hk11 : Keeps (fun b => b ≠ q) w10 ((w10.setCell ⟨q, 3, none⟩ (.int .i64 (sp : Int))).setCell ⟨q, 4, none⟩ (.int .i64 (lat : Int))) := ((Keeps.refl _ w10).setCell (.inr fun hn => hn rfl) _).setCell (.inr fun hn => hn rfl) _
      have HFIN := Lib.hid (hfin ((w10.setCell ⟨q, 3, none⟩ (.int .i64 (sp : Int))).setCell ⟨q, 4, none⟩ (.int .i64 (lat : Int))).drew (hb11.trans rfl) hk11.drew)
      clear hfin hb11 hk11 hb10 hk10
      go_region
      go_wp2_with fail
      go_ret
      exact ⟨rfl, HFIN.out⟩

end Go.Proofs.YtpaadllbmhbnhaaDoor
