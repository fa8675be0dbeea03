/-
  THE PROGRAM's TWO SLOTS: how they lie in memory; load, there, blank, Turn, Text.
-/
import Derived.Test.YtmnjdlnjhomhnaaDoorAllSecs
import Derived.Test.YtmnjdlnjhomhnaaDoorSuperIf
namespace Go.Proofs.YtmnjdlnjhomhnaaDoor
open Go Go.RowKit Go.Joins
def SBlk (w : World) (q p lat sp t : Nat) (x : List UInt8) : Prop :=
  w.heap[q]? = some (.cells #[.int .i64 (t : Int), .string (txt x), .pointer (some ⟨p, 0, none⟩), .int .i64 (lat : Int), .int .i64 (sp : Int)] 68 (0, 0))
theorem SBlk.keep {w w' : World} {q p lat sp t : Nat} {x : List UInt8} {G : Nat → Prop} (h : SBlk w q p lat sp t x) (hk : Keeps G w w') (hG : G q) : SBlk w' q p lat sp t x := by
  have hlt : q < w.heap.size := (Array.getElem?_eq_some_iff.1 h).1
  exact (hk.block q hG hlt).trans h
structure SAt (w : World) (q : Nat) (F : Foot) (st : SSt) : Prop where
  blk : SBlk w q st.dev (st.place + st.which) (st.place + (1 - st.which)) st.turn st.text
  wf : st.which ≤ 1 ∧ 1 ≤ st.turn ∧ st.text.length ≤ 40
  is : ∀ b, F.all b ↔ b = q
  m : F.M q
theorem SAt.keep {w w' : World} {q : Nat} {F : Foot} {st : SSt} (h : SAt w q F st) (hk : Keeps F.all w w') : SAt w' q F st :=
  ⟨h.blk.keep hk (.inl h.m), h.wf, h.is, h.m⟩
theorem SAt.lt {w : World} {q : Nat} {F : Foot} {st : SSt} (h : SAt w q F st) : ∀ b, F.all b → b < w.heap.size := fun b hb => by
  rw [(h.is b).1 hb]
  exact (Array.getElem?_eq_some_iff.1 h.blk).1
theorem there_yes (w : World) (p : Nat) (F : Foot) (s : SDev) (h : DAt w p F s) (i : Nat) (hi : i + 2 ≤ s.now.length) :
    Calls Tryd.prog 28 #[.pointer (some ⟨p, 0, none⟩), .int .i64 (i : Int)] w fun e w' => e = .returned (.bool true) ∧ w = w' := by
  have hl := Lib.hid (dlen_any w p F s h)
  have hsm := h.ok.small
  have h1 : decide ((i : Int) < (s.now.length : Int) - 1) = true := by simp; omega
  have h2 : (1 : Int) ≤ (s.now.length : Int) := by omega
  clear h hi
  go_enter Tryd.func28, Tryd.ntmps28
  go_wp2_with fail
  refine hl.out.mono ?_
  rintro e w' ⟨rfl, rfl⟩
  go_wp2_with fail
  go_ret
  exact ⟨rfl, rfl⟩
theorem there_no (w : World) (p : Nat) (F : Foot) (s : SDev) (h : DAt w p F s) (i : Int) (h1 : -9223372036854775808 ≤ i) (h2 : i < 9223372036854775808) (hi : i < 0 ∨ (s.now.length : Int) < i + 2) :
    Calls Tryd.prog 28 #[.pointer (some ⟨p, 0, none⟩), .int .i64 i] w fun e w' => e = .returned (.bool false) ∧ w = w' := by
  have hl := Lib.hid (dlen_any w p F s h)
  have hsm := h.ok.small
  have hps := h.ok.pos
  have hd : decide (0 ≤ i) = false ∨ decide (0 ≤ i) = true ∧ decide (i < (s.now.length : Int) - 1) = false := by
    by_cases h0 : 0 ≤ i
    · right; simp; omega
    · left; simp; omega
  have h3 : (1 : Int) ≤ (s.now.length : Int) := by omega
  clear h hi
  rcases hd with hd | ⟨hd, hd2⟩
  · go_enter Tryd.func28, Tryd.ntmps28
    go_wp2_with fail
    go_ret
    exact ⟨rfl, rfl⟩
  · go_enter Tryd.func28, Tryd.ntmps28
    go_wp2_with fail
    refine hl.out.mono ?_
    rintro e w' ⟨rfl, rfl⟩
    go_wp2_with fail
    go_ret
    exact ⟨rfl, rfl⟩
theorem stext_nil (w : World) : Calls Tryd.prog 27 #[.pointer none] w fun e w' => ∃ A c, e = .returned (.slice A 0 c) ∧ Keeps (fun _ => True) w w' := by
  go_enter Tryd.func27, Tryd.ntmps27
  go_wp2
  go_ret
  exact ⟨_, _, rfl, Keeps.refl _ _⟩
theorem ssave_nil (w : World) : Calls Tryd.prog 22 #[.pointer none, .slice none 0 0] w fun e w' => e = .returned (.int .i64 8) ∧ Keeps (fun _ => True) w w' := by
  go_enter Tryd.func22, Tryd.ntmps22
  go_wp2
  go_ret
  exact ⟨rfl, Keeps.refl _ _⟩
theorem ssave_no (w : World) (q _p _lat _sp _t : Nat) (_x : List UInt8) (A : Option Addr) (n c : Nat) (hn : 40 < n) (hnm : n ≤ maxLen) :
    Calls Tryd.prog 22 #[.pointer (some ⟨q, 0, none⟩), .slice A n c] w fun e w' => e = .returned (.int .i64 1) ∧ Keeps (fun _ => True) w w' := by
  unfold maxLen at hnm
  go_enter Tryd.func22, Tryd.ntmps22
  go_wp2
  go_ret
  exact ⟨rfl, Keeps.refl _ _⟩
theorem conv_text (w : World) (x : List UInt8) (n : Nat) (hn : n = x.length) : ∃ (w1 : World) (cap : Nat), (convert 9 45 (.string (txt x))).run Tryd.prog w = .ok (.slice (some ⟨w.heap.size, 0, none⟩) n cap) w1 ∧
    Row w1 (some ⟨w.heap.size, 0, none⟩) (fun b => w.heap.size ≤ b ∧ b < w1.heap.size) (bcells x) ∧ Keeps (fun _ => True) w w1 := by
  subst hn
  have h := run_bytes_of_string (P := Tryd.prog) w 9 45 5 (txt x) Tryd.underlying9 Tryd.underlying45 Tryd.underlying5
  rw [txt_size] at h
  refine ⟨_, _, h, ?_, ((Keeps.refl _ w).drew).alloc _⟩
  intro _
  refine ⟨_, 0, rfl, ⟨Nat.le_refl _, by simp⟩, fun i v hv => ?_⟩
  have hi : i < x.length := by
    have := (List.getElem?_eq_some_iff.1 hv).1
    rwa [bcells_len] at this
  rw [Nat.zero_add]
  refine (cell_alloc_mark_at w.drew _ _ _ w.heap.size i rfl).trans ?_
  unfold bytesRow
  rw [Array.getElem?_append_left (by simpa [txt] using hi), ← hv]
  simp [bcells, txt]
  rfl
theorem stext_any (w : World) (q : Nat) (F : Foot) (st : SSt) (h : SAt w q F st) :
    Calls Tryd.prog 27 #[.pointer (some ⟨q, 0, none⟩)] w fun e w' => ∃ A c, e = .returned (.slice A st.text.length c) ∧ Row w' A (fun b => w.heap.size ≤ b ∧ b < w'.heap.size) (bcells st.text) ∧ Keeps (fun _ => True) w w' := by
  have c1 : w.cell? ⟨q, 1, none⟩ = some (.string (txt st.text)) := (cell_of_block h.blk 1).trans rfl
  obtain ⟨w1, cap, hcv, hr, hk⟩ := conv_text w st.text st.text.length rfl
  have HR := Lib.hid hr
  have HK := Lib.hid hk
  clear h hr hk
  generalize st.text = x at *
  go_enter Tryd.func27, Tryd.ntmps27
  go_wp2_with fail
  go_ret
  exact ⟨_, _, rfl, HR.out, HK.out⟩
set_option maxHeartbeats 400000 in
theorem load_any (w : World) (hT : Taken w) (p : Nat) (F : Foot) (s : SDev) (h : DAt w p F s) (i : Nat) (hi : i < s.now.length) :
    Calls Tryd.prog 36 #[.pointer (some ⟨p, 0, none⟩), .int .i64 (i : Int)] w fun e w' => e = .returned (recV (decS (s.now.getD i []))) ∧ Keeps (fun _ => True) w w' := by
  have hsm := h.ok.small
  have hre : s.readE (i : Int) = 0 := if_neg (by omega)
  have hrl : s.readL (i : Int) = s.now.getD i [] := (if_neg (by omega)).trans (by rw [Int.toNat_natCast])
  have hlen : (s.now.getD i []).length = 64 := by rw [getD_mem _ _ _ hi]; exact h.ok.nrow _ (List.getElem_mem hi)
  have hrd := fun w' (hk : Keeps (fun _ => True) w w') => dread_any w' p F s (h.keep (hk.mono fun _ _ _ => trivial)) (i : Int) (by omega) (by omega)
  rw [hre, hrl] at hrd
  generalize s.now.getD i [] = l at hrd hlen ⊢
  have HL := Lib.hid hlen
  have HRD := Lib.hid hrd
  have HT := Lib.hid hT
  clear hre hrl hlen hrd h hT hi hsm
  go_enter Tryd.func36, Tryd.ntmps36
  go_wp2_with fail
  have hk0 := (Keeps.refl (fun _ => True) w).alloc (.cells #[.int .i64 0, .string ⟨#[]⟩] 66)
  have hb0 := heap_alloc_new w (.cells #[.int .i64 0, .string ⟨#[]⟩] 66)
  have hr0 : w.heap.size < (w.alloc (.cells #[.int .i64 0, .string ⟨#[]⟩] 66)).heap.size := by simp
  generalize (w.alloc (.cells #[.int .i64 0, .string ⟨#[]⟩] 66)) = w0 at hk0 hb0 hr0 ⊢
  refine (HRD.out w0 hk0).mono ?_
  rintro e w1 ⟨v, rfl, ho, hk1⟩
  have hb1 := (hk1.block _ trivial hr0).trans hb0
  have hr1 := Nat.lt_of_lt_of_le hr0 hk1.size
  obtain ⟨g, c, rfl, hbase, hlt⟩ := ho.form (by rw [HL.out]; decide)
  have hroom := own_room ho
  have hrow := own_row ho
  have HP := Lib.hid (parse_any w1 (HT.out.keep (hk0.trans hk1)) g 0 c _ l hrow HL.out (by have := hroom.1; rw [HL.out] at this; exact this) hroom.2)
  have HK1 := Lib.hid (hk0.trans hk1)
  have HB1 := Lib.hid hb1
  have HR1 := Lib.hid hr1
  clear hk0 hb0 hr0 hb1 hr1 ho hk1 hbase hlt hroom hrow HRD
  go_wp2_with fail
  rw [HL.out]
  refine HP.out.mono ?_
  rintro e w4 ⟨rfl, hk4⟩
  have hb4 := (hk4.block _ trivial HR1.out).trans HB1.out
  have c0 := (cell_of_block hb4 0).trans rfl
  have c1 := (cell_of_block hb4 1).trans rfl
  have f0 := unfrozen_of_block hb4 0
  have f1 := unfrozen_of_block hb4 1
  have hk := HK1.out.trans hk4
  have HFIN := Lib.hid (show ∀ v0 v1, Keeps (fun _ => True) w ((w4.setCell ⟨w.heap.size, 0, none⟩ v0).setCell ⟨w.heap.size, 1, none⟩ v1) from fun v0 v1 => (hk.setCell (.inl (Nat.le_refl _)) v0).setCell (.inl (Nat.le_refl _)) v1)
  have HCELL := Lib.hid (show ∀ v0 v1, ((w4.setCell ⟨w.heap.size, 0, none⟩ v0).setCell ⟨w.heap.size, 1, none⟩ v1).cell? ⟨w.heap.size, 0, none⟩ = some v0 ∧ ((w4.setCell ⟨w.heap.size, 0, none⟩ v0).setCell ⟨w.heap.size, 1, none⟩ v1).cell? ⟨w.heap.size, 1, none⟩ = some v1 from fun v0 v1 => by
    have h1 := block_setCell (block_setCell hb4 (i := 0) v0) (i := 1) v1
    exact ⟨(cell_of_block h1 0).trans rfl, (cell_of_block h1 1).trans rfl⟩)
  obtain ⟨t, x, hx⟩ : ∃ (t : Int) (x : ByteArray), recV (decS l) = .agg #[.int .i64 t, .string x] := by
    cases decS l with
    | none => exact ⟨_, _, rfl⟩
    | some r => exact ⟨_, _, rfl⟩
  have HX := Lib.hid hx
  rw [hx]
  clear hb4 hk hk4 hx HB1 HR1 HK1 HP
  go_wp2_with fail
  exact bodyPost_ret (v := .agg #[.int .i64 t, .string x]) (by simp [results, Tryd.results36, go_sem, HCELL.out]) rfl ⟨by rw [HX.out], HFIN.out _ _⟩
end Go.Proofs.YtmnjdlnjhomhnaaDoor
