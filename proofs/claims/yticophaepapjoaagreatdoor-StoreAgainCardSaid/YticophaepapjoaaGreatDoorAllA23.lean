/-
  SuperMade, SuperOpen, SuperSave, SuperSaves, SuperMake, IxHash, IxFind: texts of mine, joined.
-/
import Derived.Test.YticophaepapjoaaGreatDoorAllA14
import Derived.Test.YticophaepapjoaaGreatDoorAllA22
import Derived.RegionTactic
import Derived.ChangeAlike
import Derived.BigRegion
import Derived.StillTailTactics
import Derived.Test.YticophaepapjoaaGreatDoorAllA18
import Derived.Test.YticophaepapjoaaGreatDoorAllA19
namespace Go.Proofs.YticophaepapjoaaGreatDoor
open Go Go.RowKit Go.Joins
def SBlk (w : World) (q p lat sp t : Nat) (x : List UInt8) : Prop :=
 w.heap[q]? = some (.cells #[.int .i64 (t : Int), .string (txt x), .pointer (some ⟨p, 0, none⟩), .int .i64 (lat : Int), .int .i64 (sp : Int)] 143 (0, 0))
theorem SBlk.keep {w w' : World} {q p lat sp t : Nat} {x : List UInt8} {G : Nat → Prop} (h : SBlk w q p lat sp t x) (hk : Keeps G w w') (hG : G q) : SBlk w' q p lat sp t x := by
 have hlt : q < w.heap.size := (Array.getElem?_eq_some_iff.1 h).1
 exact (hk.block q hG hlt).trans h
structure SAt (w : World) (q : Nat) (F : Foot) (st : SSt) : Prop where
 blk : SBlk w q st.dev (st.place + st.which) (st.place + (1 - st.which)) st.turn st.text
 wf : st.which ≤ 1 ∧ 1 ≤ st.turn ∧ st.text.length ≤ 40
 is : ∀ b, F.all b ↔ b = q
 m : F.M q
theorem SAt.keep {w w' : World} {q : Nat} {F : Foot} {st : SSt} (h : SAt w q F st) (hk : Keeps F.all w w') : SAt w' q F st :=
 ⟨h.blk.keep hk (.inl h.m), h.wf, h.is, h.m⟩
theorem SAt.lt {w : World} {q : Nat} {F : Foot} {st : SSt} (h : SAt w q F st) : ∀ b, F.all b → b < w.heap.size := fun b hb => by
 rw [(h.is b).1 hb]
 exact (Array.getElem?_eq_some_iff.1 h.blk).1
theorem there_yes (w : World) (p : Nat) (F : Foot) (s : SDev) (h : DAt w p F s) (i : Nat) (hi : i + 2 ≤ s.now.length) :
  Calls Tryz.prog 94 #[.pointer (some ⟨p, 0, none⟩), .int .i64 (i : Int)] w fun e w' => e = .returned (.bool true) ∧ w = w' := by
 have hl := Lib.hid (dlen_any w p F s h)
 have hsm := h.ok.small
 have h1 : decide ((i : Int) < (s.now.length : Int) - 1) = true := by simp; omega
 have h2 : (1 : Int) ≤ (s.now.length : Int) := by omega
 clear h hi
 go_enter Tryz.func94, Tryz.ntmps94
 go_wp2_with fail
 refine hl.out.mono ?_
 rintro e w' ⟨rfl, rfl⟩
 go_wp2_with fail
 go_ret
 exact ⟨rfl, rfl⟩
theorem conv_text (w : World) (x : List UInt8) (n : Nat) (hn : n = x.length) : ∃ (w1 : World) (cap : Nat), (convert 9 64 (.string (txt x))).run Tryz.prog w = .ok (.slice (some ⟨w.heap.size, 0, none⟩) n cap) w1 ∧
  Row w1 (some ⟨w.heap.size, 0, none⟩) (fun b => w.heap.size ≤ b ∧ b < w1.heap.size) (bcells x) ∧ Keeps (fun _ => True) w w1 := by
 subst hn
 have h := run_bytes_of_string (P := Tryz.prog) w 9 64 5 (txt x) Tryz.underlying9 Tryz.underlying64 Tryz.underlying5
 rw [txt_size] at h
 refine ⟨_, _, h, ?_, ((Keeps.refl _ w).drew).alloc _⟩
 intro _
 refine ⟨_, 0, rfl, ⟨Nat.le_refl _, by simp⟩, fun i v hv => ?_⟩
 have hi : i < x.length := by
  have := (List.getElem?_eq_some_iff.1 hv).1
  rwa [bcells_len] at this
 rw [Nat.zero_add]
 refine (cell_alloc_mark_at w.drew _ _ _ w.heap.size i rfl).trans ?_
 unfold bytesRow
 rw [Array.getElem?_append_left (by simpa [txt] using hi), ← hv]
 simp [bcells, txt]
 rfl
theorem stext_any (w : World) (q : Nat) (F : Foot) (st : SSt) (h : SAt w q F st) :
  Calls Tryz.prog 84 #[.pointer (some ⟨q, 0, none⟩)] w fun e w' => ∃ A c, e = .returned (.slice A st.text.length c) ∧ Row w' A (fun b => w.heap.size ≤ b ∧ b < w'.heap.size) (bcells st.text) ∧ Keeps (fun _ => True) w w' := by
 have c1 : w.cell? ⟨q, 1, none⟩ = some (.string (txt st.text)) := (cell_of_block h.blk 1).trans rfl
 obtain ⟨w1, cap, hcv, hr, hk⟩ := conv_text w st.text st.text.length rfl
 have HR := Lib.hid hr
 have HK := Lib.hid hk
 clear h hr hk
 generalize st.text = x at *
 go_enter Tryz.func84, Tryz.ntmps84
 go_wp2_with fail
 go_ret
 exact ⟨_, _, rfl, HR.out, HK.out⟩
set_option maxHeartbeats 400000 in
theorem load_any (w : World) (hT : Taken w) (p : Nat) (F : Foot) (s : SDev) (h : DAt w p F s) (i : Nat) (hi : i < s.now.length) :
  Calls Tryz.prog 116 #[.pointer (some ⟨p, 0, none⟩), .int .i64 (i : Int)] w fun e w' => e = .returned (recV (decS (s.now.getD i []))) ∧ Keeps (fun _ => True) w w' := by
 have hsm := h.ok.small
 have hre : s.readE (i : Int) = 0 := if_neg (by omega)
 have hrl : s.readL (i : Int) = s.now.getD i [] := (if_neg (by omega)).trans (by rw [Int.toNat_natCast])
 have hlen : (s.now.getD i []).length = 64 := by rw [getD_mem _ _ _ hi]; exact h.ok.nrow _ (List.getElem_mem hi)
 have hrd := fun w' (hk : Keeps (fun _ => True) w w') => dread_any w' p F s (h.keep (hk.mono fun _ _ _ => trivial)) (i : Int) (by omega) (by omega)
 rw [hre, hrl] at hrd
 generalize s.now.getD i [] = l at hrd hlen ⊢
 have HL := Lib.hid hlen
 have HRD := Lib.hid hrd
 have HT := Lib.hid hT
 clear hre hrl hlen hrd h hT hi hsm
 go_enter Tryz.func116, Tryz.ntmps116
 go_wp2_with fail
 have hk0 := (Keeps.refl (fun _ => True) w).alloc (.cells #[.int .i64 0, .string ⟨#[]⟩] 141)
 have hb0 := heap_alloc_new w (.cells #[.int .i64 0, .string ⟨#[]⟩] 141)
 have hr0 : w.heap.size < (w.alloc (.cells #[.int .i64 0, .string ⟨#[]⟩] 141)).heap.size := by simp
 generalize (w.alloc (.cells #[.int .i64 0, .string ⟨#[]⟩] 141)) = w0 at hk0 hb0 hr0 ⊢
 refine (HRD.out w0 hk0).mono ?_
 rintro e w1 ⟨v, rfl, ho, hk1⟩
 have hb1 := (hk1.block _ trivial hr0).trans hb0
 have hr1 := Nat.lt_of_lt_of_le hr0 hk1.size
 obtain ⟨g, c, rfl, hbase, hlt⟩ := ho.form (by rw [HL.out]; decide)
 have hroom := own_room ho
 have hrow := own_row ho
 have HP := Lib.hid (parse_any w1 (HT.out.keep (hk0.trans hk1)) g 0 c _ l hrow HL.out (by have := hroom.1; rw [HL.out] at this; exact this) hroom.2)
 have HK1 := Lib.hid (hk0.trans hk1)
 have HB1 := Lib.hid hb1
 have HR1 := Lib.hid hr1
 clear hk0 hb0 hr0 hb1 hr1 ho hk1 hbase hlt hroom hrow HRD
 go_wp2_with fail
 rw [HL.out]
 refine HP.out.mono ?_
 rintro e w4 ⟨rfl, hk4⟩
 have hb4 := (hk4.block _ trivial HR1.out).trans HB1.out
 have c0 := (cell_of_block hb4 0).trans rfl
 have c1 := (cell_of_block hb4 1).trans rfl
 have f0 := unfrozen_of_block hb4 0
 have f1 := unfrozen_of_block hb4 1
 have hk := HK1.out.trans hk4
 have HFIN := Lib.hid (show ∀ v0 v1, Keeps (fun _ => True) w ((w4.setCell ⟨w.heap.size, 0, none⟩ v0).setCell ⟨w.heap.size, 1, none⟩ v1) from fun v0 v1 => (hk.setCell (.inl (Nat.le_refl _)) v0).setCell (.inl (Nat.le_refl _)) v1)
 have HCELL := Lib.hid (show ∀ v0 v1, ((w4.setCell ⟨w.heap.size, 0, none⟩ v0).setCell ⟨w.heap.size, 1, none⟩ v1).cell? ⟨w.heap.size, 0, none⟩ = some v0 ∧ ((w4.setCell ⟨w.heap.size, 0, none⟩ v0).setCell ⟨w.heap.size, 1, none⟩ v1).cell? ⟨w.heap.size, 1, none⟩ = some v1 from fun v0 v1 => by
  have h1 := block_setCell (block_setCell hb4 (i := 0) v0) (i := 1) v1
  exact ⟨(cell_of_block h1 0).trans rfl, (cell_of_block h1 1).trans rfl⟩)
 obtain ⟨t, x, hx⟩ : ∃ (t : Int) (x : ByteArray), recV (decS l) = .agg #[.int .i64 t, .string x] := by
  cases decS l with
  | none => exact ⟨_, _, rfl⟩
  | some r => exact ⟨_, _, rfl⟩
 have HX := Lib.hid hx
 rw [hx]
 clear hb4 hk hk4 hx HB1 HR1 HK1 HP
 go_wp2_with fail
 exact bodyPost_ret (v := .agg #[.int .i64 t, .string x]) (by simp [results, Tryz.results116, go_sem, HCELL.out]) rfl ⟨by rw [HX.out], HFIN.out _ _⟩
def recT : Option (Nat × List UInt8) → Nat × List UInt8
 | none => (0, [])
 | some r => r
theorem recV_is (o : Option (Nat × List UInt8)) : recV o = .agg #[.int .i64 ((recT o).1 : Int), .string (txt (recT o).2)] := by
 cases o <;> rfl
theorem decS_wf {l : List UInt8} {t : Nat} {x : List UInt8} (h : decS l = some (t, x)) : 1 ≤ t ∧ t ≤ 1099511627776 ∧ x.length ≤ 40 := by
 unfold decS at h
 cases hf : decF 83 l with
 | none => rw [hf] at h; cases h
 | some r =>
  rw [hf] at h
  obtain ⟨t', x'⟩ := r
  unfold takeS at h
  simp only at h
  split at h
  ·cases h
  ·injection h with h
   injection h with h3 h4
   subst h3; subst h4
   omega
theorem recT_le (l : List UInt8) : (recT (decS l)).1 ≤ 1099511627776 := by
 cases h : decS l with
 | none => exact Nat.zero_le _
 | some r => exact (decS_wf (t := r.1) (x := r.2) h).2.1
theorem blk_new (w : World) (n q p lat sp t : Nat) (x : List UInt8) (z : Int) (hz : z = (lat : Int)) (z2 : Int) (hz2 : z2 = (sp : Int)) (z3 : Int) (hz3 : z3 = (t : Int)) (hn : n = w.heap.size) (hq : q = n) : SBlk (w.alloc (.cells #[.int .i64 z3, .string (txt x), .pointer (some ⟨p, 0, none⟩), .int .i64 z, .int .i64 z2] 143)) q p lat sp t x := by
 subst hz hz2 hz3 hn hq
 exact heap_alloc_new w _
def SuperOpenPost (w : World) (p i t1 t2 : Nat) (x1 x2 : List UInt8) (e : Ending) (w' : World) : Prop :=
 (t2 ≤ t1 ∧ 1 ≤ t1 ∧ ∃ q, e = .returned (.tuple #[.pointer (some ⟨q, 0, none⟩), .int .i64 0]) ∧ SBlk w' q p i (i + 1) t1 x1 ∧ w.heap.size ≤ q ∧ Keeps (fun _ => True) w w') ∨
 (t1 < t2 ∧ ∃ q, e = .returned (.tuple #[.pointer (some ⟨q, 0, none⟩), .int .i64 0]) ∧ SBlk w' q p (i + 1) i t2 x2 ∧ w.heap.size ≤ q ∧ Keeps (fun _ => True) w w') ∨
 (t1 = 0 ∧ t2 = 0 ∧ e = .returned (.tuple #[.pointer none, .int .i64 3]) ∧ Keeps (fun _ => True) w w')
set_option maxRecDepth 100000 in
set_option maxHeartbeats 2000000 in
theorem sopen_any (w : World) (hT : Taken w) (p : Nat) (F : Foot) (s : SDev) (h : DAt w p F s) (i : Nat) (hi : i + 2 ≤ s.now.length) :
  Calls Tryz.prog 82 #[.pointer (some ⟨p, 0, none⟩), .int .i64 (i : Int)] w (SuperOpenPost w p i (recT (decS (s.now.getD i []))).1 (recT (decS (s.now.getD (i + 1) []))).1 (recT (decS (s.now.getD i []))).2 (recT (decS (s.now.getD (i + 1) []))).2) := by
 have hsm := h.ok.small
 have hi1 : i ≤ 2048 := by omega
 have HL1 := Lib.hid (load_any w hT p F s h i (by omega))
 have HL2 := Lib.hid (fun w' (hk : Keeps (fun _ => True) w w') => load_any w' (hT.keep hk) p F s (h.keep (hk.mono fun _ _ _ => trivial)) (i + 1) (by omega))
 have HTH := Lib.hid (there_yes w p F s h i hi)
 have ht1 := recT_le (s.now.getD i [])
 have ht2 := recT_le (s.now.getD (i + 1) [])
 simp only [recV_is] at HL1 HL2
 generalize (recT (decS (s.now.getD i []))) = r1 at *
 generalize (recT (decS (s.now.getD (i + 1) []))) = r2 at *
 obtain ⟨t1, x1⟩ := r1
 obtain ⟨t2, x2⟩ := r2
 simp only at *
 clear h hT hi hsm
 go_enter Tryz.func82, Tryz.ntmps82
 go_wp2_with fail
 refine HTH.out.mono ?_
 rintro e w' ⟨rfl, rfl⟩
 go_wp2_with fail
 refine HL1.out.mono ?_
 rintro e w1 ⟨rfl, hk1⟩
 have HK1 := Lib.hid hk1
 have HL2' := Lib.hid (HL2.out w1 hk1)
 clear hk1 HL2 HL1 HTH
 go_wp2_with fail
 refine (show Calls _ _ _ _ _ from HL2'.out).mono ?_
 rintro e w2 ⟨rfl, hk2⟩
 have HK2 := Lib.hid (HK1.out.trans hk2)
 clear hk2 HL2' HK1
 have hcs : (decide (t1 < t2) = false ∧ ((t1 : Int) == 0) = false ∧ t2 ≤ t1 ∧ 1 ≤ t1) ∨ (decide (t1 < t2) = true ∧ ((t2 : Int) == 0) = false ∧ t1 < t2) ∨ (decide (t1 < t2) = false ∧ ((t1 : Int) == 0) = true ∧ t1 = 0 ∧ t2 = 0) := by
  by_cases h : t1 < t2
  ·right; left; exact ⟨by simpa using h, by simp; omega, h⟩
  ·by_cases h0 : t1 = 0
   ·right; right; exact ⟨by simpa using h, by simp; omega, h0, by omega⟩
   ·left; exact ⟨by simpa using h, by simp; omega, by omega, by omega⟩
 have HFIN := Lib.hid (show ∀ C, Keeps (fun _ => True) w ((((w2.alloc (.cells #[.int .i64 (t1 : Int), .string (txt x1)] 141)).alloc (.cells #[.int .i64 (t2 : Int), .string (txt x2)] 141)).alloc C)) from fun C => ((HK2.out.alloc _).alloc _).alloc C)
 rcases hcs with ⟨b1, b2, b3⟩ | ⟨b1, b2, b3⟩ | ⟨b1, b2, b3⟩
 ·have HC := Lib.hid b3
  clear b3
  go_wp2_with fail
  go_ret2
  exact .inl ⟨HC.out.1, HC.out.2, _, rfl, blk_new _ _ _ p i (i + 1) t1 x1 _ rfl _ (by omega) _ rfl rfl (by simp), by have := HK2.out.size; omega, HFIN.out _⟩
 ·have HC := Lib.hid b3
  clear b3
  go_wp2_with fail
  go_ret2
  exact .inr (.inl ⟨HC.out, _, rfl, blk_new _ _ _ p (i + 1) i t2 x2 _ (by omega) _ rfl _ rfl rfl (by simp), by have := HK2.out.size; omega, (HFIN.out _).alloc _⟩)
 ·have HC := Lib.hid b3
  clear b3
  go_wp2_with fail
  go_ret2
  exact .inr (.inr ⟨HC.out.1, HC.out.2, rfl, HFIN.out _⟩)
theorem write64_now (s : SDev) (i : Nat) (l : List UInt8) (hl : l.length = 64) (hr : (s.now.getD i []).length = 64) : (s.write i l).now = s.now.set i l := by
 show s.now.set i (over l (s.now.getD i [])) = _
 unfold over
 rw [List.drop_of_length_le (by omega), List.append_nil]
theorem row64 {w : World} {p : Nat} {F : Foot} {s : SDev} (h : DAt w p F s) (i : Nat) (hi : i < s.now.length) : (s.now.getD i []).length = 64 := by
 rw [getD_mem _ _ _ hi]; exact h.ok.nrow _ (List.getElem_mem hi)
theorem flush_is (s : SDev) : s.flush = SDev.still s.now (s.calls + 1) := rfl
def blanked (rows : List (List UInt8)) (i : Nat) : Nat → List (List UInt8)
 | 0 => rows
 | 1 => rows.set i blank
 | _ => (rows.set i blank).set (i + 1) blank
theorem blanked_len (rows : List (List UInt8)) (i k : Nat) : (blanked rows i k).length = rows.length := by
 match k with
 | 0 => rfl
 | 1 => simp [blanked]
 | n + 2 => simp [blanked]
theorem blanked_next (rows : List (List UInt8)) (i k : Nat) (hk : k < 2) : (blanked rows i k).set (i + k) blank = blanked rows i (k + 1) := by
 match k, hk with
 | 0, _ => rfl
 | 1, _ => rfl
def Blk (w2 : World) (p : Nat) (F : Foot) (s : SDev) (i k : Nat) (w : World) : Prop := ∃ (F' : Foot) (s' : SDev), DAt w p F' s' ∧ s'.now = blanked s.now i k ∧ s'.calls = s.calls + k ∧ Step F F' w2 w
set_option maxHeartbeats 1000000 in
theorem blank_any (w : World) (p : Nat) (F : Foot) (s : SDev) (h : DAt w p F s) (i : Nat) (hi : i + 2 ≤ s.now.length) (hcalls : s.calls ≤ 549755813888) :
  Calls Tryz.prog 95 #[.pointer (some ⟨p, 0, none⟩), .int .i64 (i : Int)] w fun e w' => e = .returned (.int .i64 0) ∧ ∃ F', DAt w' p F' (SDev.still ((s.now.set i blank).set (i + 1) blank) (s.calls + 3)) ∧ Step F F' w w' := by
 have hsm := h.ok.small
 have HD := Lib.hid h
 have HI := Lib.hid hi
 have hi1 : i ≤ 2048 := by omega
 clear h hi
 go_enter Tryz.func95, Tryz.ntmps95
 go_wp2_with (refine list_make rfl (.const (.int .i64 64)) (.const (.int .i64 64)) 64 rfl byte_elem .i64 .i64 64 rfl rfl (by decide) (by decide) (bcells blank) made64 ?_)
 intro w2 hown hg2
 have hk2 : Keeps (fun _ => True) w w2 := Keeps.of_grown hg2 (fun _ h => by cases h)
 have HR := Lib.hid (own_row hown)
 have HD2 := Lib.hid (HD.out.keep (hk2.mono fun _ _ _ => trivial))
 have hgF : ∀ b, b = w.heap.size → ¬ F.all b := fun b e hf => by have := HD.out.lt b hf; omega
 have hlt2 := (hown.lt _ rfl).2
 have HG := Lib.hid hgF
 have HL2 := Lib.hid hlt2
 have HK := Lib.hid hk2
 clear hown hg2 hk2 hgF hlt2
 go_wp2_with fail
 go_loopw [9] (fun i9 wr => ∃ k : Nat, k ≤ 2 ∧ i9 = .int .i64 k ∧ Blk w2 p F s i k wr) (fun i9 _ => 2 - (intOf i9).toNat)
 case atStart => exact ⟨0, by omega, rfl, F, s, HD2.out, rfl, rfl, Step.refl _ _⟩
 case round =>
  obtain ⟨k, hk, rfl, F', s', hd, hn, hc, hst⟩ := hrel
  by_cases hlt : k < 2
  ·have hlt' : (k : Int) < 2 := by omega
   have hw := dwrite_yes wr p F' s' hd (i + k) (some ⟨w.heap.size, 0, none⟩) 64 (fun b => b = w.heap.size) blank (HR.out.keep (hst.keeps.mono fun b _ e hm => HG.out b e (.inl hm))) (fun b e hf => by
     rcases hst.all b hf with h1 | h1
     ·exact HG.out b e h1
     ·have := HL2.out; subst e; omega) (by rw [hn, blanked_len]; have := HI.out; omega) (Nat.le_refl _) (by omega)
   rw [show blank.length = 64 from rfl, show ((i + k : Nat) : Int) = (i : Int) + (k : Int) from by omega] at hw
   have HW := Lib.hid hw
   have hn2 : (s'.write (i + k) blank).now = blanked s.now i (k + 1) := by
    rw [write64_now s' (i + k) blank rfl (row64 hd _ (by rw [hn, blanked_len]; have := HI.out; omega)), hn, blanked_next _ _ _ hlt]
   have HN := Lib.hid hn2
   have HC := Lib.hid hc
   have HS := Lib.hid hst
   clear hd hn hc hst hw hn2
   go_wp2_with fail
   refine HW.out.mono ?_
   rintro e w3 ⟨rfl, F3, hd3, hst3⟩
   have H3 := Lib.hid (show Blk w2 p F s i (k + 1) w3 from ⟨F3, _, hd3, HN.out, by show s'.calls + 1 = _; rw [HC.out]; rfl, HS.out.trans hst3⟩)
   clear hd3 hst3 HW HN HC HS
   go_wp2_with fail
   go_roundw
   case rel => exact ⟨k + 1, by omega, by go_num, H3.out⟩
   case measure => simp [intOf]; omega
  ·obtain rfl : k = 2 := by omega
   have hf := dflush_any wr p F' s' hd (by omega)
   rw [flush_is, hn, hc] at hf
   have HF := Lib.hid hf
   have HS := Lib.hid hst
   clear hf hst hn hc hd
   go_wp2_with fail
   refine HF.out.mono ?_
   rintro e w3 ⟨rfl, F3, hd3, hst3⟩
   have H3 := Lib.hid (show ∃ F', DAt w3 p F' (SDev.still ((s.now.set i blank).set (i + 1) blank) (s.calls + 3)) ∧ Step F F' w w3 from ⟨F3, hd3, by
    have h := HS.out.trans hst3
    have hk2 := HK.out
    exact ⟨(hk2.mono fun _ _ _ => trivial).trans h.keeps, fun b hb => (h.m b hb).imp id fun h1 => Nat.le_trans hk2.size h1, fun b hb => (h.i b hb).imp id fun h1 => Nat.le_trans hk2.size h1⟩⟩)
   clear hd3 hst3 HF HS
   go_wp2_with fail
   go_ret
   exact ⟨rfl, H3.out⟩
set_option maxRecDepth 100000 in
set_option maxHeartbeats 4000000 in
theorem ssave_yes (w : World) (hT : Taken w) (q p lat sp t : Nat) (x : List UInt8) (hb : SBlk w q p lat sp t x) (F : Foot) (s : SDev) (hd : DAt w p F s) (hq : ¬ F.all q) (HTM : ¬ F.M 0) (hsp : sp < s.now.length) (_hlat : lat ≤ 4096) (ht : t ≤ 549755813888) (hcalls : s.calls ≤ 549755813888 + 100)
  (A : Option Addr) (c : Nat) (G : Nat → Prop) (l : List UInt8) (hr : Row w A G (bcells l)) (_hG : ∀ b, G b → ¬ F.all b) (_hGq : ∀ b, G b → b ≠ q) (_hlc : l.length ≤ c) (_hc : c ≤ maxLen) (hl : l.length ≤ 40) :
  Calls Tryz.prog 50 #[.pointer (some ⟨q, 0, none⟩), .slice A l.length c] w fun e w' => e = .returned (.int .i64 0) ∧ ∃ F', DAt w' p F' (SDev.still (s.now.set sp (encS (t + 1) l)) (s.calls + 2)) ∧ SBlk w' q p sp lat (t + 1) l ∧
   Keeps (fun b => ¬ F.M b ∧ b ≠ q) w w' ∧ (∀ b, F'.M b → F.M b ∨ w.heap.size ≤ b) ∧ (∀ b, F'.I b → F.all b ∨ w.heap.size ≤ b) := by
 have hsm := hd.ok.small
 have c0 : w.cell? ⟨q, 0, none⟩ = some (.int .i64 (t : Int)) := (cell_of_block hb 0).trans rfl
 have c2 : w.cell? ⟨q, 2, none⟩ = some (.pointer (some ⟨p, 0, none⟩)) := (cell_of_block hb 2).trans rfl
 have c3 : w.cell? ⟨q, 3, none⟩ = some (.int .i64 (lat : Int)) := (cell_of_block hb 3).trans rfl
 have c4 : w.cell? ⟨q, 4, none⟩ = some (.int .i64 (sp : Int)) := (cell_of_block hb 4).trans rfl
 have hcv : (convert 64 9 (.slice A l.length c)).run Tryz.prog w.drew = .ok (.string (txt l)) w.drew := (hr.keep (Keeps.refl G w).drew).to_string (P := Tryz.prog) Tryz.underlying64 Tryz.underlying5 Tryz.underlying9 l.length c rfl
 have hcv2 : ∀ o, (convert 64 9 (.slice A l.length c)).run Tryz.prog (w.alloc o).drew = .ok (.string (txt l)) (w.alloc o).drew := fun o => (hr.keep ((Keeps.refl G w).alloc o).drew).to_string (P := Tryz.prog) Tryz.underlying64 Tryz.underlying5 Tryz.underlying9 l.length c rfl
 have hqlt : q < w.heap.size := (Array.getElem?_eq_some_iff.1 hb).1
 have HD := Lib.hid hd
 have HB := Lib.hid hb
 have HT := Lib.hid hT
 unfold maxLen at _hc
 have HR := Lib.hid hr
 clear hb hd hT hr
 go_enter Tryz.func50, Tryz.ntmps50
 go_wp2_with fail
 go_region
 have hk1 : Keeps (fun _ => True) w (w.alloc (.cells #[.int .i64 ((t : Int) + 1), .string (txt l)] 141)).drew := ((Keeps.refl _ w).alloc _).drew
 have hr1 : (w.alloc (.cells #[.int .i64 ((t : Int) + 1), .string (txt l)] 141)).drew.heap[w.heap.size]? = some (.cells #[.int .i64 ((t + 1 : Nat) : Int), .string (txt l)] 141 (0, 0)) := heap_alloc_new w _
 have hz1 : (w.alloc (.cells #[.int .i64 ((t : Int) + 1), .string (txt l)] 141)).drew.heap.size = w.heap.size + 1 := by simp
 generalize (w.alloc (.cells #[.int .i64 ((t : Int) + 1), .string (txt l)] 141)).drew = w1 at hk1 hr1 hz1 ⊢
 have HD1 := Lib.hid (HD.out.keep (hk1.mono fun _ _ _ => trivial))
 have HB1 := Lib.hid (HB.out.keep hk1 trivial)
 have HT1 := Lib.hid (HT.out.keep hk1)
 have HR1 := Lib.hid hr1
 have HK1 := Lib.hid hk1
 have HZ1 := Lib.hid hz1
 have HQ := Lib.hid (show ¬ F.M q from fun h => hq (.inl h))
 have HRF := Lib.hid (show ∀ b, F.all b → b < w.heap.size from HD.out.lt)
 have HTF := Lib.hid (show ¬ F.M 0 from HTM)
 clear hk1 hr1 hz1 c0 c2 c3 c4 hcv hcv2 HD HB HT HR
 have c0 : w1.cell? ⟨w.heap.size, 0, none⟩ = some (.int .i64 ((t : Int) + 1)) := (cell_of_block HR1.out 0).trans rfl
 have c1 : w1.cell? ⟨w.heap.size, 1, none⟩ = some (.string (txt l)) := (cell_of_block HR1.out 1).trans rfl
 go_wp2_with fail
 have hfm := fmake_any w1 HT1.out 83 83 rfl (t + 1) l (by omega) (by omega) (headS_len (t + 1) l (by omega) (by omega))
 rw [show ((t + 1 : Nat) : Int) = (t : Int) + 1 from by omega] at hfm
 refine hfm.mono ?_
 clear hfm
 rintro e w2 ⟨v, rfl, ho, hk2⟩
 rw [show encF 83 (t + 1) l = encS (t + 1) l from rfl] at ho
 have hel := encS_len (t + 1) l hl (by omega)
 obtain ⟨g, cg, rfl, hbase, hglt⟩ := ho.form (by rw [hel]; decide)
 have hroom := own_room ho
 have hrow := own_row ho
 rw [hel] at hroom ⊢
 have HB2 := Lib.hid (HB1.out.keep hk2 trivial)
 have HD2 := Lib.hid (HD1.out.keep (hk2.mono fun _ _ _ => trivial))
 have HR2 := Lib.hid ((hk2.block w.heap.size trivial (by rw [HZ1.out]; omega)).trans HR1.out)
 have HK2 := Lib.hid (HK1.out.trans hk2)
 have HRW := Lib.hid hrow
 have HGF := Lib.hid (show ∀ b, b = g → ¬ F.all b from fun b e hf => by have := HRF.out b hf; have := HZ1.out; omega)
 have HEL := Lib.hid hel
 have HZ2 := Lib.hid (show w.heap.size + 1 ≤ w2.heap.size from by have := hk2.size; have := HZ1.out; omega)
 clear ho hk2 hrow hel HB1 HD1 HT1 HR1 c0 c1 hroom hbase hglt
 have c2 : w2.cell? ⟨q, 2, none⟩ = some (.pointer (some ⟨p, 0, none⟩)) := (cell_of_block HB2.out 2).trans rfl
 have c4 : w2.cell? ⟨q, 4, none⟩ = some (.int .i64 (sp : Int)) := (cell_of_block HB2.out 4).trans rfl
 go_wp2_with fail
 go_still_tail 9, (by kernel_rfl)
 change wpList _ _ _ _ _ w2.drew
 have hdr := (Keeps.refl (fun _ => True) w2).drew
 have HB3 := Lib.hid (HB2.out.keep hdr trivial)
 have HD3 := Lib.hid (HD2.out.keep (hdr.mono fun _ _ _ => trivial))
 have HR3 := Lib.hid ((hdr.block w.heap.size trivial (by have := HZ2.out; omega)).trans HR2.out)
 have HK3 := Lib.hid (HK2.out.trans hdr)
 have HRW3 := Lib.hid (HRW.out.keep (hdr.mono fun _ _ _ => trivial))
 have HZ3 := Lib.hid (show w.heap.size + 1 ≤ w2.drew.heap.size from Nat.le_trans HZ2.out hdr.size)
 clear hdr c2 c4 HB2 HD2 HR2 HK2 HRW HZ2
 generalize w2.drew = w3 at HB3 HD3 HR3 HK3 HRW3 HZ3 ⊢
 have HWR := Lib.hid (show Calls Tryz.prog 63 #[.pointer (some ⟨p, 0, none⟩), .int .i64 (sp : Int), .slice (some ⟨g, 0, none⟩) 64 cg] w3 fun e w' => e = .returned (.int .i64 0) ∧ ∃ F', DAt w' p F' (s.write sp (encS (t + 1) l)) ∧ Step F F' w3 w' from by
  have h := dwrite_yes w3 p F s HD3.out sp (some ⟨g, 0, none⟩) cg _ (encS (t + 1) l) HRW3.out (fun b hb => HGF.out b hb) hsp (by rw [HEL.out]; decide) (by omega)
  rw [HEL.out] at h
  exact h)
 clear HRW3
 go_wp2_with fail
 refine HWR.out.mono ?_
 rintro e w8 ⟨rfl, F8, hd8, hst8⟩
 have hb8 := HB3.out.keep hst8.keeps HQ.out
 have HRD := Lib.hid (row64 HD3.out sp hsp)
 have c2 : w8.cell? ⟨q, 2, none⟩ = some (.pointer (some ⟨p, 0, none⟩)) := (cell_of_block hb8 2).trans rfl
 have hf := dflush_any w8 p F8 _ hd8 (show s.calls + 1 ≤ _ by omega)
 rw [flush_is, write64_now s sp (encS (t + 1) l) HEL.out HRD.out] at hf
 have HF := Lib.hid hf
 have HS8 := Lib.hid hst8
 clear hf hst8 hb8 hd8 HWR
 go_wp2_with fail
 refine HF.out.mono ?_
 rintro e w9 ⟨rfl, F9, hd9, hst9⟩
 have hst := HS8.out.trans hst9
 have hb9 : w9.heap[q]? = _ := HB3.out.keep hst.keeps HQ.out
 have hrc := (hst.keeps.block w.heap.size (fun hm => by have := HRF.out _ (.inl hm); omega) (by have := HZ3.out; omega)).trans HR3.out
 have r0 : w9.cell? ⟨w.heap.size, 0, none⟩ = some (.int .i64 ((t + 1 : Nat) : Int)) := (cell_of_block hrc 0).trans rfl
 have r1 : w9.cell? ⟨w.heap.size, 1, none⟩ = some (.string (txt l)) := (cell_of_block hrc 1).trans rfl
 have c0 : w9.cell? ⟨q, 0, none⟩ = some (.int .i64 (t : Int)) := (cell_of_block hb9 0).trans rfl
 have c1 : w9.cell? ⟨q, 1, none⟩ = some (.string (txt x)) := (cell_of_block hb9 1).trans rfl
 have f0 := unfrozen_of_block hb9 0
 have f1 := unfrozen_of_block hb9 1
 have hz9 := hst.keeps.size
 have hb10 := block_setCell (block_setCell hb9 (i := 0) (.int .i64 ((t : Int) + 1))) (i := 1) (.string (txt l))
 have hk10 : Keeps (fun b => b ≠ q) w9 ((w9.setCell ⟨q, 0, none⟩ (.int .i64 ((t : Int) + 1))).setCell ⟨q, 1, none⟩ (.string (txt l))) := ((Keeps.refl _ w9).setCell (.inr fun hn => hn rfl) _).setCell (.inr fun hn => hn rfl) _
 have HB10 := Lib.hid hb10
 have HK10 := Lib.hid hk10
 have HST := Lib.hid hst
 have HD9 := Lib.hid hd9
 clear hst hb9 hrc hz9 hb10 hk10 hd9 hst9 c2 HS8 HF HR3 HB3
 go_wp2_with fail
 have hb10 := HB10.out
 have hk10 := HK10.out
 clear HB10 HK10 c0 c1 f0 f1 r0 r1
 generalize ((w9.setCell ⟨q, 0, none⟩ (.int .i64 ((t : Int) + 1))).setCell ⟨q, 1, none⟩ (.string (txt l))) = w10 at hb10 hk10 ⊢
 have c3 : w10.cell? ⟨q, 3, none⟩ = some (.int .i64 (lat : Int)) := (cell_of_block hb10 3).trans rfl
 have c4 : w10.cell? ⟨q, 4, none⟩ = some (.int .i64 (sp : Int)) := (cell_of_block hb10 4).trans rfl
 have f3 := unfrozen_of_block hb10 3
 have f4 := unfrozen_of_block hb10 4
 have hfin : ∀ w11 : World, w11.heap[q]? = some (.cells #[.int .i64 ((t : Int) + 1), .string (txt l), .pointer (some ⟨p, 0, none⟩), .int .i64 (sp : Int), .int .i64 (lat : Int)] 143 (0, 0)) → Keeps (fun b => b ≠ q) w10 w11 →
   ∃ F', DAt w11 p F' (SDev.still (s.now.set sp (encS (t + 1) l)) (s.calls + 2)) ∧ SBlk w11 q p sp lat (t + 1) l ∧ Keeps (fun b => ¬ F.M b ∧ b ≠ q) w w11 ∧ (∀ b, F'.M b → F.M b ∨ w.heap.size ≤ b) ∧ (∀ b, F'.I b → F.all b ∨ w.heap.size ≤ b) := by
  intro w11 hb11 hk11
  have hst := HST.out
  have hk1 := HK3.out
  have hk := hk10.trans hk11
  have hqF : ¬ F9.all q := fun hf => by
   rcases hst.all q hf with h1 | h1
   ·exact hq h1
   ·have := HZ3.out; omega
  refine ⟨F9, HD9.out.keep (hk.mono fun b _ hb e => hqF (by rw [← e]; exact hb)), hb11, ?_, fun b hb => (hst.m b hb).imp id fun h1 => Nat.le_trans hk1.size h1, fun b hb => (hst.i b hb).imp id fun h1 => Nat.le_trans hk1.size h1⟩
  exact ((hk1.mono fun _ _ _ => trivial).trans (hst.keeps.mono fun b _ hb => hb.1)).trans (hk.mono fun b _ hb => hb.2)
 have hb11 := block_setCell (block_setCell hb10 (i := 3) (.int .i64 (sp : Int))) (i := 4) (.int .i64 (lat : Int))
 have hk11 : Keeps (fun b => b ≠ q) w10 ((w10.setCell ⟨q, 3, none⟩ (.int .i64 (sp : Int))).setCell ⟨q, 4, none⟩ (.int .i64 (lat : Int))) := ((Keeps.refl _ w10).setCell (.inr fun hn => hn rfl) _).setCell (.inr fun hn => hn rfl) _
 have HFIN := Lib.hid (hfin ((w10.setCell ⟨q, 3, none⟩ (.int .i64 (sp : Int))).setCell ⟨q, 4, none⟩ (.int .i64 (lat : Int))).drew (hb11.trans rfl) hk11.drew)
 clear hfin hb11 hk11 hb10 hk10
 go_region
 go_wp2_with fail
 go_ret
 exact ⟨rfl, HFIN.out⟩
theorem set_three (rows : List (List UInt8)) (i : Nat) (a b c : List UInt8) : ((rows.set i a).set (i + 1) b).set i c = (rows.set i c).set (i + 1) b := by
 rw [List.set_comm _ _ (show i ≠ i + 1 by omega), List.set_set, List.set_comm _ _ (show i + 1 ≠ i by omega)]
set_option maxRecDepth 100000 in
set_option maxHeartbeats 2000000 in
theorem smake_any (w : World) (hT : Taken w) (p : Nat) (F : Foot) (s : SDev) (h : DAt w p F s) (HTM : ∀ b, F.M b → b ≠ 0) (i : Nat) (hi : i + 2 ≤ s.now.length) (hcalls : s.calls ≤ 549755813888)
  (A : Option Addr) (c : Nat) (G : Nat → Prop) (l : List UInt8) (hr : Row w A G (bcells l)) (hG : ∀ b, G b → ¬ F.all b) (hlc : l.length ≤ c) (hc : c ≤ maxLen) (hl : l.length ≤ 40) :
  Calls Tryz.prog 65 #[.pointer (some ⟨p, 0, none⟩), .int .i64 (i : Int), .slice A l.length c] w fun e w' => ∃ (q : Nat) (F' : Foot), e = .returned (.tuple #[.pointer (some ⟨q, 0, none⟩), .int .i64 0]) ∧
   DAt w' p F' (SDev.still ((s.now.set i (encS 1 l)).set (i + 1) blank) (s.calls + 5)) ∧ SBlk w' q p i (i + 1) 1 l ∧ w.heap.size ≤ q ∧ ¬ F'.all q ∧ Step F F' w w' := by
 have hsm := h.ok.small
 have hi1 : i ≤ 2048 := by omega
 have hlen : (l.length : Int) ≤ 40 := by omega
 have HTH := Lib.hid (there_yes w p F s h i hi)
 have HBL := Lib.hid (blank_any w p F s h i hi hcalls)
 have HD := Lib.hid h
 have HT := Lib.hid hT
 have HR := Lib.hid hr.lt
 have HG := Lib.hid hG
 have HM := Lib.hid HTM
 have HI := Lib.hid hi
 clear h hT hi hr hG HTM hsm
 go_enter Tryz.func65, Tryz.ntmps65
 go_wp2_with fail
 refine HTH.out.mono ?_
 rintro e w' ⟨rfl, rfl⟩
 go_wp2_with fail
 refine HBL.out.mono ?_
 rintro e w1 ⟨rfl, F1, hd1, hst1⟩
 have HD1 := Lib.hid hd1
 have HS1 := Lib.hid hst1
 clear hd1 hst1 HBL HTH
 go_wp2_with fail
 have hs1 := HS1.out
 have hk2 : Keeps (fun _ => True) w1 (w1.alloc (.cells #[.int .i64 0, .string ⟨#[]⟩, .pointer (some ⟨p, 0, none⟩), .int .i64 ((i : Int) + 1), .int .i64 (i : Int)] 143)) := (Keeps.refl _ w1).alloc _
 have hb2 := blk_new w1 _ w1.heap.size p (i + 1) i 0 [] ((i : Int) + 1) (by omega) (i : Int) rfl 0 rfl rfl rfl
 rw [show txt [] = (⟨#[]⟩ : ByteArray) from rfl] at hb2
 have hz2 : w1.heap.size < (w1.alloc (.cells #[.int .i64 0, .string ⟨#[]⟩, .pointer (some ⟨p, 0, none⟩), .int .i64 ((i : Int) + 1), .int .i64 (i : Int)] 143)).heap.size := by simp
 generalize (w1.alloc (.cells #[.int .i64 0, .string ⟨#[]⟩, .pointer (some ⟨p, 0, none⟩), .int .i64 ((i : Int) + 1), .int .i64 (i : Int)] 143)) = w2 at hk2 hb2 hz2 ⊢
 have hT2 : Taken w2 := fun j hj => hk2.cell (hs1.keeps.cell (HT.out j hj) (fun hm => HM.out _ hm rfl)) trivial
 have hlt1 := HD1.out.lt
 have hall := hs1.all
 have hsv := ssave_yes w2 hT2 w1.heap.size p (i + 1) i 0 [] hb2 F1 _ (HD1.out.keep (hk2.mono fun _ _ _ => trivial)) (fun hf => by have := hlt1 _ hf; omega) (fun hm => by
   rcases hs1.m _ hm with h1 | h1
   ·exact HM.out _ h1 rfl
   ·have := World.block_lt_of_cell? w _ (HT.out 0 (by decide)); simp only at this; omega) (by simp [SDev.still]; have := HI.out; omega) (by omega) (by omega) (show s.calls + 3 ≤ _ by omega) A c (fun b => G b ∧ b < w.heap.size) l
   (((HR.out.keep (hs1.keeps.mono fun b _ hb hm => HG.out b hb.1 (.inl hm)))).keep (hk2.mono fun _ _ _ => trivial)) (fun b hb hf => by
    rcases hall b hf with h1 | h1
    ·exact HG.out b hb.1 h1
    ·omega) (fun b hb e => by have := hs1.keeps.size; omega) hlc hc hl
 have HSV := Lib.hid hsv
 have HK2 := Lib.hid hk2
 have HLT := Lib.hid hlt1
 have HZ2 := Lib.hid hz2
 clear hsv hk2 hb2 hT2 hlt1 hall hs1 hz2
 go_wp2_with fail
 refine HSV.out.mono ?_
 rintro e w3 ⟨rfl, F3, hd3, hb3, hk3, hm3, hi3⟩
 have H3 := Lib.hid (show DAt w3 p F3 (SDev.still ((s.now.set i (encS 1 l)).set (i + 1) blank) (s.calls + 5)) ∧ SBlk w3 w1.heap.size p i (i + 1) 1 l ∧ w.heap.size ≤ w1.heap.size ∧ ¬ F3.all w1.heap.size ∧ Step F F3 w w3 from by
  have hs1 := HS1.out
  have hk2 := HK2.out
  have e : ((SDev.still ((s.now.set i blank).set (i + 1) blank) (s.calls + 3)).now.set i (encS (0 + 1) l)) = (s.now.set i (encS 1 l)).set (i + 1) blank := set_three s.now i blank blank (encS 1 l)
  rw [e] at hd3
  have hst : Step F1 F3 w1 w3 := ⟨⟨hk3.os.trans hk2.os, hk3.tape.trans hk2.tape, hk3.output.trans hk2.output, Nat.le_trans hk2.size hk3.size, fun b hb hlt => (hk3.block b ⟨hb, by omega⟩ (Nat.lt_of_lt_of_le hlt hk2.size)).trans (hk2.block b trivial hlt)⟩,
   fun b hb => (hm3 b hb).imp id fun h1 => Nat.le_trans hk2.size h1, fun b hb => (hi3 b hb).imp id fun h1 => Nat.le_trans hk2.size h1⟩
  refine ⟨hd3, hb3, hs1.keeps.size, ?_, hs1.trans hst⟩
  intro hf
  have hz := HZ2.out
  have hlt := HLT.out
  rcases hf with hf | hf
  ·rcases hm3 _ hf with h1 | h1
   ·have := hlt _ (.inl h1); omega
   ·omega
  ·rcases hi3 _ hf with h1 | h1
   ·have := hlt _ h1; omega
   ·omega)
 clear hd3 hb3 hk3 hm3 hi3
 go_wp2_with fail
 go_ret2
 exact ⟨_, F3, rfl, H3.out⟩
def theFoot (q : Nat) : Foot := ⟨fun b => b = q, fun _ => False⟩
theorem foot_all (q b : Nat) : (theFoot q).all b ↔ b = q := ⟨fun h => h.elim id False.elim, fun h => .inl h⟩
theorem taken_lt {w : World} (h : Taken w) : 0 < w.heap.size := World.block_lt_of_cell? w _ (h 0 (by decide))
theorem rec_some {o : Option (Nat × List UInt8)} {t : Nat} {x : List UInt8} (h : o = some (t, x)) : recT o = (t, x) := by rw [h]; rfl
theorem rec_none {o : Option (Nat × List UInt8)} (h : o = none) : recT o = (0, []) := by rw [h]; rfl
def theSup : SupOK := {
 T := Taken
 tk := fun h hk => h.keep hk
 enc := encS
 dec := decS
 encLen := fun t x hx _ ht => encS_len t x hx ht
 decEnc := fun t x hx h1 ht => decS_enc t x hx h1 ht
 decBlank := decS_blank
 decBad := fun t x i b hx _ ht hi hb => decS_bad t x i b hx ht hi hb
 rep := SAt
 wf := fun h => h.wf
 lt := fun h => h.lt
 keep := fun h hk => h.keep hk
 make := fun W w p F s hd hT hk hF i A c G l hi hr hG hlc hc hA hl hcalls => by
  have hT0 := taken_lt hT
  refine (smake_any w (hT.keep hk) p F s hd (fun b hb e => by have := hF b (.inl hb); omega) i hi hcalls A c G l hr hG hlc hc hl).mono ?_
  rintro e w' ⟨q, F', rfl, hd', hb', hq, hqF, hst⟩
  refine ⟨q, F', theFoot q, s.calls + 5, rfl, hd', by omega, ⟨hb', ⟨Nat.zero_le 1, Nat.le_refl 1, hl⟩, foot_all q, rfl⟩, hst, fun b hb => by rw [(foot_all q b).1 hb]; exact hq, ⟨fun b hb hf => ?_, fun b hb hf => ?_⟩⟩
  ·rw [(foot_all q b).1 hf] at hb; exact hqF (.inl hb)
  ·rw [show b = q from hb] at hf; exact hqF hf
 open_ := fun w p F s hd hT i k t x hi hk h1 h2 ht => by
  refine (sopen_any w hT p F s hd i hi).mono ?_
  intro e w' h
  obtain ⟨w1, w2, w3⟩ := decS_wf h1
  have hk01 : k = 0 ∨ k = 1 := by omega
  rcases hk01 with rfl | rfl
  ·have e1 := rec_some h1
   rw [Nat.add_zero] at e1
   unfold SuperOpenPost at h
   rw [e1] at h
   have hle : (recT (decS (s.now.getD (i + 1) []))).1 < t := by
    cases h3 : decS (s.now.getD (i + 1) []) with
    | none => exact w1
    | some r => exact h2 r.1 r.2 h3
   rcases h with ⟨_, _, q, rfl, hb, hq, hkp⟩ | ⟨h3, _⟩ | ⟨h3, _⟩
   ·exact ⟨q, theFoot q, rfl, ⟨hb, ⟨by omega, w1, w3⟩, foot_all q, rfl⟩, fun b hb => by rw [(foot_all q b).1 hb]; exact hq, hkp⟩
   ·simp only at h3; omega
   ·simp only at h3; omega
  ·have e1 := rec_some h1
   unfold SuperOpenPost at h
   rw [e1] at h
   have hle : (recT (decS (s.now.getD i []))).1 < t := by
    cases h3 : decS (s.now.getD i []) with
    | none => exact w1
    | some r => exact h2 r.1 r.2 h3
   rcases h with ⟨h3, _⟩ | ⟨_, q, rfl, hb, hq, hkp⟩ | ⟨_, h3, _⟩
   ·simp only at h3; omega
   ·exact ⟨q, theFoot q, rfl, ⟨hb, ⟨by omega, w1, w3⟩, foot_all q, rfl⟩, fun b hb => by rw [(foot_all q b).1 hb]; exact hq, hkp⟩
   ·simp only at h3; omega
 openBad := fun w p F s hd hT i hi h1 h2 => by
  refine (sopen_any w hT p F s hd i hi).mono ?_
  intro e w' h
  unfold SuperOpenPost at h
  rw [rec_none h1, rec_none h2] at h
  rcases h with ⟨_, h3, _⟩ | ⟨h3, _⟩ | ⟨_, _, rfl, hkp⟩
  ·simp only at h3; omega
  ·simp only at h3; omega
  ·exact ⟨rfl, hkp⟩
 save := fun W w p q F Fs s st hd hs hp ha hT hk hF hroom hsec hcalls hturn A c G l hr hG hGs hlc hc hA hl => by
  subst hp
  have hT0 := taken_lt hT
  have hw := hs.wf
  have hsm := hd.ok.small
  refine (ssave_yes w (hT.keep hk) q st.dev (st.place + st.which) (st.place + (1 - st.which)) st.turn st.text hs.blk F s hd (ha.r q hs.m) (fun hm => by have := hF _ (.inl hm); omega) (by omega) (by omega) hturn (by omega) A c G l hr hG (fun b hb e => hGs b hb ((hs.is b).2 e)) hlc hc hl).mono ?_
  rintro e w' ⟨rfl, F', hd', hb', hkp, hm', hi'⟩
  have hqlt := hs.lt q (.inl hs.m)
  refine ⟨rfl, F', Fs, s.calls + 2, hd', by omega, ⟨?_, ⟨by show 1 - st.which ≤ 1; omega, by show 1 ≤ st.turn + 1; omega, hl⟩, hs.is, hs.m⟩, ⟨fun b hb hf => ?_, fun b hb hf => ?_⟩, hkp.mono fun b _ hb => ⟨hb.1, fun e => hb.2 (by rw [e]; exact hs.m)⟩, hm', hi', fun b hb => .inl hb, fun b hb => .inl (.inr hb)⟩
  ·show SBlk w' q st.dev (st.place + (1 - st.which)) (st.place + (1 - (1 - st.which))) (st.turn + 1) l
   rw [show 1 - (1 - st.which) = st.which by omega]
   exact hb'
  ·rw [(hs.is b).1 hf] at hb
   rcases hm' q hb with h1 | h1
   ·exact ha.l q h1 (.inl hs.m)
   ·omega
  ·rw [(hs.is b).1 (.inl hb)] at hf
   rcases hf with hf | hf
   ·rcases hm' q hf with h1 | h1
    ·exact ha.l q h1 (.inl hs.m)
    ·omega
   ·rcases hi' q hf with h1 | h1
    ·exact ha.r q hs.m h1
    ·omega
 text := fun w p q F Fs s st _ hs _ _ _ _ => stext_any w q Fs st hs
}
def hashN (s : ByteArray) : Nat := (partsZ [s]).toNat
theorem hashZ_is (s : ByteArray) : 0 ≤ partsZ [s] ∧ partsZ [s] < 18446744073709551616 := by
 show 0 ≤ endZ _ _ ∧ endZ _ _ < _
 unfold endZ
 exact ⟨stZ_nonneg _, stZ_lt _⟩
theorem hashN_cast (s : ByteArray) : ((hashN s : Nat) : Int) = partsZ [s] := by
 have := hashZ_is s
 unfold hashN; omega
theorem hashN_lt (s : ByteArray) : hashN s < 18446744073709551616 := by
 have := hashZ_is s
 unfold hashN; omega
theorem hash_any (s : ByteArray) (b : Nat) (w : World) (hs : s.size ≤ 1000000) (hc : w.cell? ⟨b, 0, none⟩ = some (.string s)) :
  Calls Tryz.prog 69 #[.slice (some ⟨b, 0, none⟩) 1 1] w fun e w' => e = .returned (.int .u64 ((hashN s : Nat) : Int)) ∧ w' = w := by
 rw [hashN_cast]
 refine (of_any [s] b 0 1 w (show 1 ≤ maxLen by decide) (by intro x hx; simp at hx; rw [hx]; unfold maxLen; omega)
  (fun i hi => by have hi0 : i = 0 := by simpa using hi
                  subst hi0; exact hc)).mono ?_
 rintro e w' ⟨rfl, rfl⟩
 exact ⟨rfl, rfl⟩
set_option maxRecDepth 100000 in
set_option maxHeartbeats 1000000 in
theorem ixfind_any (w : World) (q g n c : Nat) (T : Tab) (st : IxSt) (hI : IxAt w q g n c T) (hT : TabOk hashN T n st) (hn : n ≤ 1099511627776) (k : ByteArray) :
  Calls Tryz.prog 68 #[.pointer (some ⟨q, 0, none⟩), .string k, .int .u64 ((hashN k : Nat) : Int)] w fun e w' => w' = w ∧
   ((∃ i, i < n ∧ (T i).full = true ∧ (T i).key = k ∧ e = .returned (.tuple #[.int .i64 (i : Int), .bool true])) ∨ (ixGet st k = none ∧ e = .returned (.tuple #[.int .i64 0, .bool false]))) := by
 obtain ⟨f, hf1, hf2⟩ := hT.free
 have h0 := hT.pos
 have hh := hashN_lt k
 have HI := Lib.hid hI
 have HT := Lib.hid hT
 have c0 := hI.blk.c0
 have hne : ¬ ((n : Int) = 0) := by omega
 have hHome := Lib.hid (home_any w q g n c T hI h0 hn (hashN k) hh)
 have hS := Seen.start (h := hashN) (T := T) h0 k
 have HS := Lib.hid hS
 have hBeh := Lib.hid (fun i hi => ixbehind_any w q g n c T hI i hi hn)
 clear hI hT hS hh
 generalize hX : hashN k = X at hHome HS ⊢
 have HX := Lib.hid hX
 clear hX
 go_enter Tryz.func68, Tryz.ntmps68
 go_wp2_with fail
 refine (show Calls _ _ _ _ _ from hHome.out).mono ?_
 rintro e w1 ⟨rfl, rfl⟩
 clear hHome
 have HS : Hid (Seen hashN T n k 0 (X % n)) := by rw [← HX.out] at HS ⊢; exact HS
 generalize X % n = i0 at HS ⊢
 go_wp2_with fail
 go_loopw [8] (fun i wr => ∃ j d : Nat, j < n ∧ i = .int .i64 (j : Int) ∧ wr = w1 ∧ Hid (Seen hashN T n k d j)) (fun i _ => n - way n (hashN k % n) (intOf i).toNat)
 case atStart => exact ⟨i0, 0, HS.out.lt, rfl, rfl, HS⟩
 case round =>
  clear HS
  obtain ⟨j, d, hj, rfl, rfl, HS⟩ := hrel
  have t1 := HI.out.tab.c1 hj
  have t0 := HI.out.tab.c0 hj
  have t3 := HI.out.tab.c3 hj
  have hw := HS.out.way
  cases hful : (T j).full with
  | false =>
   rw [hful] at t3
   have HF := Lib.hid (HS.out.miss HT.out hful)
   clear hful hw t0 t1
   go_wp2_with fail
   go_ret2
   exact ⟨rfl, .inr ⟨HF.out, rfl⟩⟩
  | true =>
   rw [hful] at t3
   have hhash := HT.out.hash j hj hful
   generalize hK : (T j).key = K at t0 hhash
   by_cases hk : K = k
   ·subst hk
    have HF := Lib.hid (show ∃ i, i < n ∧ (T i).full = true ∧ (T i).key = K ∧ Ending.returned (.tuple #[.int .i64 (j : Int), .bool true]) = .returned (.tuple #[.int .i64 (i : Int), .bool true]) from ⟨j, hj, hful, hK, rfl⟩)
    have hX := HX.out
    rw [hX] at hhash
    rw [hhash] at t1
    clear hful hw hhash hX hK
    go_wp2_with fail
    go_ret2
    exact ⟨rfl, .inl HF.out⟩
   ·have hne2 : (K.toList == k.toList) = false := by
     rw [beq_eq_false_iff_ne]
     intro e
     rw [ByteArray.toList_eq, ByteArray.toList_eq] at e
     exact hk (ByteArray.ext (Array.toList_inj.1 e))
    have HN := Lib.hid (HS.out.next hf1 hf2 hful (by rw [hK]; exact hk))
    have hj2 := HN.out.lt
    have hw2 := HN.out.way
    have hd2 := HN.out.dn
    have HW := Lib.hid (show n - way n (hashN k % n) (nx n j 1) < n - way n (hashN k % n) j by omega)
    have hB := Lib.hid (hBeh.out j hj)
    clear hful hw hhash hK hk hw2 hd2 HS
    generalize nx n j 1 = j2 at HN hj2 HW hB
    generalize hZ : (T j).hash = Z at t1
    clear hZ
    by_cases hz : Z = (X : Int)
    ·subst hz
     go_wp2_with fail
     refine (show Calls _ _ _ _ _ from hB.out).mono ?_
     rintro e w2 ⟨rfl, rfl⟩
     go_wp2_with fail
     go_roundw
     case rel => exact ⟨j2, d + 1, hj2, rfl, trivial, HN⟩
     case measure => simp only [intOf, Int.toNat_natCast]; exact HW.out
    ·have hz' : (Z == (X : Int)) = false := by rw [beq_eq_false_iff_ne]; exact hz
     go_wp2_with fail
     refine (show Calls _ _ _ _ _ from hB.out).mono ?_
     rintro e w2 ⟨rfl, rfl⟩
     go_wp2_with fail
     go_roundw
     case rel => exact ⟨j2, d + 1, hj2, rfl, trivial, HN⟩
     case measure => simp only [intOf, Int.toNat_natCast]; exact HW.out
end Go.Proofs.YticophaepapjoaaGreatDoor
