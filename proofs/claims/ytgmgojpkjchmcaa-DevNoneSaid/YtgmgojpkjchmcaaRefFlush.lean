/-
  THE REFERENCE's DEVICE: Flush.
-/
import Derived.Test.YtgmgojpkjchmcaaRefDev
namespace Go.Proofs.Ytgmgojpkjchmcaa
open Go Go.RowKit Go.Joins

theorem splice_next {α : Type} (a b : List α) (k : Nat) (ha : k < a.length) (hb : k < b.length) : (a.take k ++ b.drop k).set k a[k] = a.take (k + 1) ++ b.drop (k + 1) := by
  rw [List.set_append_right _ _ (by rw [List.length_take]; omega), List.length_take, Nat.min_eq_left (by omega), Nat.sub_self, List.take_succ_eq_append_getElem ha, List.append_assoc]
  congr 1
  rw [List.drop_eq_getElem_cons hb, List.set_cons_zero]; rfl
theorem splice_len {α : Type} (a b : List α) (k : Nat) (h : a.length = b.length) (hk : k ≤ a.length) : (a.take k ++ b.drop k).length = a.length := by simp; omega
/-- A row that stands elsewhere, behind a store. -/
theorem own_other {w : World} {base n n' : Nat} {e e' : TypeId} {g g' c c' j : Nat} {xs ys : List Value} {u : Value} (h : w.ownsRow base e 1 (.slice (some ⟨g, 0, none⟩) n c) n xs) (k : w.ownsRow base e' 1 (.slice (some ⟨g', 0, none⟩) n' c') n' ys) (hne : g' ≠ g) :
    (w.setCell ⟨g, j, none⟩ u).ownsRow base e' 1 (.slice (some ⟨g', 0, none⟩) n' c') n' ys :=
  World.ownsRow.kept k (h.stored j u).2 (.inr (by simp [Value.ownBlock, hne]))

set_option maxHeartbeats 1000000 in
theorem rflush_any (w : World) (p : Nat) (F : Foot) (s : SDev) (h : RAt w p F s) (hcalls : s.calls ≤ 1099511627776) :
    Calls Try.prog 16 #[.pointer (some ⟨p, 0, none⟩)] w fun e w' => (∃ v, e = .returned v) ∧ RAt w' p F s.flush ∧ Keeps (fun b => ¬ F.M b) w w' := by
  obtain ⟨gn, cn, gf, cf, gd, cd, ns, fs, h1, h2, h3, h4, h5, h6, h7, h8, h9, m1, m2, m3, m4⟩ := h.ex
  have hok := h.ok
  have hnl : ns.length = s.now.length := by rw [← h3]; simp
  have hfl : fs.length = s.now.length := by rw [← hok.fast, ← h5]; simp
  have hdl : s.dirty.length = s.now.length := hok.dirty
  have hsm := hok.small
  simp only [List.nodup_cons, List.mem_cons, List.not_mem_nil, or_false, not_or, not_false_eq_true, List.nodup_nil, and_true] at h9
  obtain ⟨⟨d1, d2, d3⟩, ⟨d4, d5⟩, d6⟩ := h9
  have hlt : p < w.heap.size := h.lt p (.inl m1)
  have hcell3 : w.cell? ⟨p, 3, none⟩ = some (.int .i64 (s.calls : Int)) := (cell_of_block h1 3).trans rfl
  have hfr3 : w.frozen? ⟨p, 3, none⟩ = false := unfrozen_of_block h1 3
  have hblk0 := block_setCell h1 (i := 3) (.int .i64 ((s.calls : Int) + 1))
  have hk0 : Keeps (fun b => ¬ F.M b) w (w.setCell ⟨p, 3, none⟩ (.int .i64 ((s.calls : Int) + 1))) := (Keeps.refl _ w).setCell (.inr fun hn => hn m1) _
  have ho1 : (w.setCell ⟨p, 3, none⟩ (.int .i64 ((s.calls : Int) + 1))).ownsRow 0 28 1 (.slice (some ⟨gn, 0, none⟩) s.now.length cn) s.now.length (ns.map Part.val) :=
    ((Keeps.refl (fun b => b ≠ p) w).setCell (.inr (fun hn => hn rfl)) _).own h2 (fun b hb => by cases hb; exact Ne.symm d1)
  have ho2 : (w.setCell ⟨p, 3, none⟩ (.int .i64 ((s.calls : Int) + 1))).ownsRow 0 28 1 (.slice (some ⟨gf, 0, none⟩) s.now.length cf) s.now.length (fs.map Part.val) :=
    ((Keeps.refl (fun b => b ≠ p) w).setCell (.inr (fun hn => hn rfl)) _).own h4 (fun b hb => by cases hb; exact Ne.symm d2)
  have ho3 : (w.setCell ⟨p, 3, none⟩ (.int .i64 ((s.calls : Int) + 1))).ownsRow 0 4 1 (.slice (some ⟨gd, 0, none⟩) s.now.length cd) s.now.length (s.dirty.map Value.bool) :=
    ((Keeps.refl (fun b => b ≠ p) w).setCell (.inr (fun hn => hn rfl)) _).own h6 (fun b hb => by cases hb; exact Ne.symm d3)
  have Hfin := Lib.hid (show ∀ wr : World, wr.heap[p]? = some (.cells #[.slice (some ⟨gn, 0, none⟩) s.now.length cn, .slice (some ⟨gf, 0, none⟩) s.now.length cf, .slice (some ⟨gd, 0, none⟩) s.now.length cd, .int .i64 ((s.calls : Int) + 1)] 40 (0, 0)) →
      wr.ownsRow 0 28 1 (.slice (some ⟨gn, 0, none⟩) s.now.length cn) s.now.length (ns.map Part.val) → wr.ownsRow 0 28 1 (.slice (some ⟨gf, 0, none⟩) s.now.length cf) s.now.length ((ns.take s.now.length ++ fs.drop s.now.length).map Part.val) →
      wr.ownsRow 0 4 1 (.slice (some ⟨gd, 0, none⟩) s.now.length cd) s.now.length ((List.replicate s.now.length false ++ s.dirty.drop s.now.length).map Value.bool) → Keeps (fun b => ¬ F.M b) w wr → RAt wr p F s.flush ∧ Keeps (fun b => ¬ F.M b) w wr from by
    intro wr q1 q2 q3 q4 q5
    rw [← hnl, List.take_length, List.drop_eq_nil_of_le (show fs.length ≤ ns.length by omega), List.append_nil, hnl] at q3
    rw [List.drop_eq_nil_of_le (show s.dirty.length ≤ s.now.length by omega), List.append_nil] at q4
    refine ⟨⟨flush_ok s hok, fun b hb => Nat.lt_of_lt_of_le (h.lt b hb) q5.size, h.two, gn, cn, gf, cf, gd, cd, ns, ns, ?_, q2, h3, q3, h3, q4, ?_, ?_, ?_, m1, m2, m3, m4⟩, q5⟩
    · rw [q1]; simp [SDev.flush]
    · exact fun q hq => (h7 q hq).keep (q5.mono fun b _ hb hm => h.two b hm hb)
    · exact fun q hq => (h7 q hq).keep (q5.mono fun b _ hb hm => h.two b hm hb)
    · simp; omega)
  have M1 := Lib.hid m1
  have M3 := Lib.hid m3
  have M4 := Lib.hid m4
  have B0 := Lib.hid hblk0
  have K0 := Lib.hid hk0
  have O1 := Lib.hid ho1
  have O2 := Lib.hid ho2
  have O3 := Lib.hid ho3
  have N1 := Lib.hid hnl
  have N2 := Lib.hid hfl
  have N3 := Lib.hid hdl
  clear h1 h2 h3 h4 h5 h6 h7 h8 m1 m2 m3 m4 hblk0 hk0 ho1 ho2 ho3 hnl hfl hdl hok
  go_enter Try.func16, Try.ntmps16
  go_wp2
  go_loopw [2] (fun i wr => ∃ k : Nat, k ≤ s.now.length ∧ i = .int .i64 k ∧ wr.heap[p]? = some (.cells #[.slice (some ⟨gn, 0, none⟩) s.now.length cn, .slice (some ⟨gf, 0, none⟩) s.now.length cf, .slice (some ⟨gd, 0, none⟩) s.now.length cd, .int .i64 ((s.calls : Int) + 1)] 40 (0, 0)) ∧
      wr.ownsRow 0 28 1 (.slice (some ⟨gn, 0, none⟩) s.now.length cn) s.now.length (ns.map Part.val) ∧ wr.ownsRow 0 28 1 (.slice (some ⟨gf, 0, none⟩) s.now.length cf) s.now.length ((ns.take k ++ fs.drop k).map Part.val) ∧
      wr.ownsRow 0 4 1 (.slice (some ⟨gd, 0, none⟩) s.now.length cd) s.now.length ((List.replicate k false ++ s.dirty.drop k).map Value.bool) ∧ Keeps (fun b => ¬ F.M b) w wr) (fun i _ => s.now.length - (intOf i).toNat)
  case atStart => exact ⟨0, Nat.zero_le _, rfl, B0.out, O1.out, O2.out, O3.out, K0.out⟩
  case round =>
    obtain ⟨k, hk, rfl, q1, q2, q3, q4, q5⟩ := hrel
    have c0 : wr.cell? ⟨p, 0, none⟩ = some (.slice (some ⟨gn, 0, none⟩) s.now.length cn) := (cell_of_block q1 0).trans rfl
    have c1 : wr.cell? ⟨p, 1, none⟩ = some (.slice (some ⟨gf, 0, none⟩) s.now.length cf) := (cell_of_block q1 1).trans rfl
    have c2 : wr.cell? ⟨p, 2, none⟩ = some (.slice (some ⟨gd, 0, none⟩) s.now.length cd) := (cell_of_block q1 2).trans rfl
    have Q5 := Lib.hid q5
    by_cases hl : k < s.now.length
    · have hkn : k < ns.length := by rw [N1.out]; exact hl
      have hkf : k < fs.length := by rw [N2.out]; exact hl
      have hkd : k < s.dirty.length := by rw [N3.out]; exact hl
      have hn : wr.cell? ⟨gn, k, none⟩ = some ns[k].val := (q2.cellAt k (by omega)).trans (by simp [hkn])
      have hf1 : wr.cell? ⟨gf, k, none⟩ = some fs[k].val := (q3.cellAt k (by omega)).trans (by
        rw [List.getElem?_map, List.getElem?_append_right (by rw [List.length_take]; omega), List.length_take, Nat.min_eq_left (by omega), Nat.sub_self]; simp [hkf])
      have hd1 : wr.cell? ⟨gd, k, none⟩ = some (.bool s.dirty[k]) := (q4.cellAt k (by omega)).trans (by
        rw [List.getElem?_map, List.getElem?_append_right (by simp), List.length_replicate, Nat.sub_self]; simp [hkd])
      have z1 := q3.frozenAt k
      have z2 := q4.frozenAt k
      have S3 : (wr.setCell ⟨gf, k, none⟩ ns[k].val).ownsRow 0 28 1 (.slice (some ⟨gf, 0, none⟩) s.now.length cf) s.now.length ((ns.take (k + 1) ++ fs.drop (k + 1)).map Part.val) := by
        have := (q3.stored k ns[k].val).1
        rwa [← List.map_set, splice_next ns fs k hkn hkf] at this
      have S2 := own_other (j := k) (u := ns[k].val) q3 q2 d4
      have S4 := own_other (j := k) (u := ns[k].val) q3 q4 (Ne.symm d6)
      have S1 : (wr.setCell ⟨gf, k, none⟩ ns[k].val).heap[p]? = _ := (Below.heap_setCell wr ⟨gf, k, none⟩ ns[k].val p d2).trans q1
      have W1 : ∃ W : World, W = (wr.setCell ⟨gf, k, none⟩ ns[k].val).drew := ⟨_, rfl⟩
      have S1' := Lib.hid S1
      have S2' := Lib.hid S2
      have S3' := Lib.hid S3
      have S4' := Lib.hid S4
      have hnd : s.dirty.length = s.now.length := N3.out
      have T4 : ∀ j u, j < s.now.length → ((wr.setCell ⟨gf, k, none⟩ ns[k].val).setCell ⟨gd, j, none⟩ u).ownsRow 0 4 1 (.slice (some ⟨gd, 0, none⟩) s.now.length cd) s.now.length (((List.replicate k false ++ s.dirty.drop k).map Value.bool).set j u) := fun j u _ => (S4.stored j u).1
      have T5 := T4 k (.bool false) hl
      rw [← List.map_set] at T5
      have e5 : (List.replicate k false ++ s.dirty.drop k).set k false = List.replicate (k + 1) false ++ s.dirty.drop (k + 1) := by
        have := splice_next (List.replicate s.now.length false) s.dirty k (by simpa using hl) hkd
        simp only [List.take_replicate, List.getElem_replicate, Nat.min_eq_left hk, Nat.min_eq_left (show k + 1 ≤ s.now.length from hl)] at this
        exact this
      rw [e5] at T5
      have Q5b := ((Q5.out.setCell (p := ⟨gf, k, none⟩) (.inr (fun hn => hn M3.out)) ns[k].val).setCell (p := ⟨gd, k, none⟩) (.inr (fun hn => hn M4.out)) (.bool false))
      have T1 : ((wr.setCell ⟨gf, k, none⟩ ns[k].val).setCell ⟨gd, k, none⟩ (.bool false)).heap[p]? = _ := (Below.heap_setCell _ ⟨gd, k, none⟩ (.bool false) p d3).trans S1
      have T2 := own_other (j := k) (u := .bool false) S4 S2 d5
      have T3 := own_other (j := k) (u := .bool false) S4 S3 d6
      have c2' : (wr.setCell ⟨gf, k, none⟩ ns[k].val).cell? ⟨p, 2, none⟩ = some (.slice (some ⟨gd, 0, none⟩) s.now.length cd) := (cell_of_block S1 2).trans rfl
      have hd1' : (wr.setCell ⟨gf, k, none⟩ ns[k].val).cell? ⟨gd, k, none⟩ = some (.bool s.dirty[k]) := (S4.cellAt k (by omega)).trans (by
        rw [List.getElem?_map, List.getElem?_append_right (by simp), List.length_replicate, Nat.sub_self]; simp [hkd])
      have z2' := S4.frozenAt k
      have R1 := Lib.hid T1
      have R2 := Lib.hid T2
      have R3 := Lib.hid T3
      have R4 := Lib.hid T5
      have R5 := Lib.hid Q5b
      clear q1 q2 q3 q4 q5 S1 S2 S3 S4 S1' S2' S3' S4' T4 T5 e5 T1 T2 T3 Q5b Q5 W1 hnd
      generalize ns[k] = pt at *
      obtain ⟨pa, pc, pl⟩ := pt
      simp only [Part.val] at *
      go_wp2
      go_region
      go_wp2
      go_roundw
      case rel => exact ⟨k + 1, by omega, by go_num, R1.out, R2.out, R3.out, R4.out, R5.out.drew⟩
      case measure => simp [intOf]; omega
    · obtain rfl : k = s.now.length := by omega
      have HE := Lib.hid (Hfin.out wr q1 q2 q3 q4 q5)
      clear q1 q2 q3 q4 q5 Q5
      go_wp2
      go_end0
      exact ⟨⟨_, rfl⟩, HE.out⟩

end Go.Proofs.Ytgmgojpkjchmcaa
