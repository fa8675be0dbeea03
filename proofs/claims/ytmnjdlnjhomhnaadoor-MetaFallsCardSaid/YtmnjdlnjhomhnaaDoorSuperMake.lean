/-
  THE PROGRAM's TWO SLOTS: Make; all that layer 5 asks of them.
-/
import Derived.Test.YtmnjdlnjhomhnaaDoorSuperOpen
import Derived.Test.YtmnjdlnjhomhnaaDoorSuperSaves
namespace Go.Proofs.YtmnjdlnjhomhnaaDoor
open Go Go.RowKit Go.Joins
theorem set_three (rows : List (List UInt8)) (i : Nat) (a b c : List UInt8) : ((rows.set i a).set (i + 1) b).set i c = (rows.set i c).set (i + 1) b := by
  rw [List.set_comm _ _ (show i ≠ i + 1 by omega), List.set_set, List.set_comm _ _ (show i + 1 ≠ i by omega)]
set_option maxRecDepth 100000 in
set_option maxHeartbeats 2000000 in
theorem smake_any (w : World) (hT : Taken w) (p : Nat) (F : Foot) (s : SDev) (h : DAt w p F s) (HTM : ∀ b, F.M b → b ≠ 0) (i : Nat) (hi : i + 2 ≤ s.now.length) (hcalls : s.calls ≤ 549755813888)
    (A : Option Addr) (c : Nat) (G : Nat → Prop) (l : List UInt8) (hr : Row w A G (bcells l)) (hG : ∀ b, G b → ¬ F.all b) (hlc : l.length ≤ c) (hc : c ≤ maxLen) (hl : l.length ≤ 40) :
    Calls Tryd.prog 18 #[.pointer (some ⟨p, 0, none⟩), .int .i64 (i : Int), .slice A l.length c] w fun e w' => ∃ (q : Nat) (F' : Foot), e = .returned (.tuple #[.pointer (some ⟨q, 0, none⟩), .int .i64 0]) ∧
      DAt w' p F' (SDev.still ((s.now.set i (encS 1 l)).set (i + 1) blank) (s.calls + 5)) ∧ SBlk w' q p i (i + 1) 1 l ∧ w.heap.size ≤ q ∧ ¬ F'.all q ∧ Step F F' w w' := by
  have hsm := h.ok.small
  have hi1 : i ≤ 2048 := by omega
  have hlen : (l.length : Int) ≤ 40 := by omega
  have HTH := Lib.hid (there_yes w p F s h i hi)
  have HBL := Lib.hid (blank_any w p F s h i hi hcalls)
  have HD := Lib.hid h
  have HT := Lib.hid hT
  have HR := Lib.hid hr.lt
  have HG := Lib.hid hG
  have HM := Lib.hid HTM
  have HI := Lib.hid hi
  clear h hT hi hr hG HTM hsm
  go_enter Tryd.func18, Tryd.ntmps18
  go_wp2_with fail
  refine HTH.out.mono ?_
  rintro e w' ⟨rfl, rfl⟩
  go_wp2_with fail
  refine HBL.out.mono ?_
  rintro e w1 ⟨rfl, F1, hd1, hst1⟩
  have HD1 := Lib.hid hd1
  have HS1 := Lib.hid hst1
  clear hd1 hst1 HBL HTH
  go_wp2_with fail
  have hs1 := HS1.out
  have hk2 : Keeps (fun _ => True) w1 (w1.alloc (.cells #[.int .i64 0, .string ⟨#[]⟩, .pointer (some ⟨p, 0, none⟩), .int .i64 ((i : Int) + 1), .int .i64 (i : Int)] 68)) := (Keeps.refl _ w1).alloc _
  have hb2 := blk_new w1 _ w1.heap.size p (i + 1) i 0 [] ((i : Int) + 1) (by omega) (i : Int) rfl 0 rfl rfl rfl
  rw [show txt [] = (⟨#[]⟩ : ByteArray) from rfl] at hb2
  have hz2 : w1.heap.size < (w1.alloc (.cells #[.int .i64 0, .string ⟨#[]⟩, .pointer (some ⟨p, 0, none⟩), .int .i64 ((i : Int) + 1), .int .i64 (i : Int)] 68)).heap.size := by simp
  generalize (w1.alloc (.cells #[.int .i64 0, .string ⟨#[]⟩, .pointer (some ⟨p, 0, none⟩), .int .i64 ((i : Int) + 1), .int .i64 (i : Int)] 68)) = w2 at hk2 hb2 hz2 ⊢
  have hT2 : Taken w2 := fun j hj => hk2.cell (hs1.keeps.cell (HT.out j hj) (fun hm => HM.out _ hm rfl)) trivial
  have hlt1 := HD1.out.lt
  have hall := hs1.all
  have hsv := ssave_yes w2 hT2 w1.heap.size p (i + 1) i 0 [] hb2 F1 _ (HD1.out.keep (hk2.mono fun _ _ _ => trivial)) (fun hf => by have := hlt1 _ hf; omega) (fun hm => by
      rcases hs1.m _ hm with h1 | h1
      · exact HM.out _ h1 rfl
      · have := World.block_lt_of_cell? w _ (HT.out 0 (by decide)); simp only at this; omega) (by simp [SDev.still]; have := HI.out; omega) (by omega) (by omega) (show s.calls + 3 ≤ _ by omega) A c (fun b => G b ∧ b < w.heap.size) l
      (((HR.out.keep (hs1.keeps.mono fun b _ hb hm => HG.out b hb.1 (.inl hm)))).keep (hk2.mono fun _ _ _ => trivial)) (fun b hb hf => by
        rcases hall b hf with h1 | h1
        · exact HG.out b hb.1 h1
        · omega) (fun b hb e => by have := hs1.keeps.size; omega) hlc hc hl
  have HSV := Lib.hid hsv
  have HK2 := Lib.hid hk2
  have HLT := Lib.hid hlt1
  have HZ2 := Lib.hid hz2
  clear hsv hk2 hb2 hT2 hlt1 hall hs1 hz2
  go_wp2_with fail
  refine HSV.out.mono ?_
  rintro e w3 ⟨rfl, F3, hd3, hb3, hk3, hm3, hi3⟩
  have H3 := Lib.hid (show DAt w3 p F3 (SDev.still ((s.now.set i (encS 1 l)).set (i + 1) blank) (s.calls + 5)) ∧ SBlk w3 w1.heap.size p i (i + 1) 1 l ∧ w.heap.size ≤ w1.heap.size ∧ ¬ F3.all w1.heap.size ∧ Step F F3 w w3 from by
    have hs1 := HS1.out
    have hk2 := HK2.out
    have e : ((SDev.still ((s.now.set i blank).set (i + 1) blank) (s.calls + 3)).now.set i (encS (0 + 1) l)) = (s.now.set i (encS 1 l)).set (i + 1) blank := set_three s.now i blank blank (encS 1 l)
    rw [e] at hd3
    have hst : Step F1 F3 w1 w3 := ⟨⟨hk3.os.trans hk2.os, hk3.tape.trans hk2.tape, hk3.output.trans hk2.output, Nat.le_trans hk2.size hk3.size, fun b hb hlt => (hk3.block b ⟨hb, by omega⟩ (Nat.lt_of_lt_of_le hlt hk2.size)).trans (hk2.block b trivial hlt)⟩,
      fun b hb => (hm3 b hb).imp id fun h1 => Nat.le_trans hk2.size h1, fun b hb => (hi3 b hb).imp id fun h1 => Nat.le_trans hk2.size h1⟩
    refine ⟨hd3, hb3, hs1.keeps.size, ?_, hs1.trans hst⟩
    intro hf
    have hz := HZ2.out
    have hlt := HLT.out
    rcases hf with hf | hf
    · rcases hm3 _ hf with h1 | h1
      · have := hlt _ (.inl h1); omega
      · omega
    · rcases hi3 _ hf with h1 | h1
      · have := hlt _ h1; omega
      · omega)
  clear hd3 hb3 hk3 hm3 hi3
  go_wp2_with fail
  go_ret2
  exact ⟨_, F3, rfl, H3.out⟩
set_option maxHeartbeats 400000 in
theorem smake_range (w : World) (p : Nat) (F : Foot) (s : SDev) (h : DAt w p F s) (i : Int) (h1 : -9223372036854775808 ≤ i) (h2 : i < 9223372036854775808) (hi : i < 0 ∨ (s.now.length : Int) < i + 2) (v : Value) :
    Calls Tryd.prog 18 #[.pointer (some ⟨p, 0, none⟩), .int .i64 i, v] w fun e w' => (∃ u, e = .returned (.tuple #[u, .int .i64 4])) ∧ Keeps (fun _ => True) w w' := by
  have HTH := Lib.hid (there_no w p F s h i h1 h2 hi)
  clear h hi
  go_enter Tryd.func18, Tryd.ntmps18
  go_wp2_with fail
  refine HTH.out.mono ?_
  rintro e w' ⟨rfl, rfl⟩
  go_wp2_with fail
  go_ret2
  exact ⟨⟨_, rfl⟩, Keeps.refl _ _⟩
set_option maxHeartbeats 400000 in
theorem smake_form (w : World) (p : Nat) (F : Foot) (s : SDev) (h : DAt w p F s) (i : Nat) (hi : i + 2 ≤ s.now.length) (A : Option Addr) (n c : Nat) (hn : 40 < n) (hnm : n ≤ maxLen) :
    Calls Tryd.prog 18 #[.pointer (some ⟨p, 0, none⟩), .int .i64 (i : Int), .slice A n c] w fun e w' => (∃ u, e = .returned (.tuple #[u, .int .i64 1])) ∧ Keeps (fun _ => True) w w' := by
  unfold maxLen at hnm
  have HTH := Lib.hid (there_yes w p F s h i hi)
  clear h hi
  go_enter Tryd.func18, Tryd.ntmps18
  go_wp2_with fail
  refine HTH.out.mono ?_
  rintro e w' ⟨rfl, rfl⟩
  go_wp2_with fail
  go_ret2
  exact ⟨⟨_, rfl⟩, Keeps.refl _ _⟩
set_option maxHeartbeats 400000 in
theorem sopen_range (w : World) (p : Nat) (F : Foot) (s : SDev) (h : DAt w p F s) (i : Int) (h1 : -9223372036854775808 ≤ i) (h2 : i < 9223372036854775808) (hi : i < 0 ∨ (s.now.length : Int) < i + 2) :
    Calls Tryd.prog 25 #[.pointer (some ⟨p, 0, none⟩), .int .i64 i] w fun e w' => (∃ u, e = .returned (.tuple #[u, .int .i64 4])) ∧ Keeps (fun _ => True) w w' := by
  have HTH := Lib.hid (there_no w p F s h i h1 h2 hi)
  clear h hi
  go_enter Tryd.func25, Tryd.ntmps25
  go_wp2_with fail
  refine HTH.out.mono ?_
  rintro e w' ⟨rfl, rfl⟩
  go_wp2_with fail
  go_ret2
  exact ⟨⟨_, rfl⟩, Keeps.refl _ _⟩
/-! ### All of it -/
def theFoot (q : Nat) : Foot := ⟨fun b => b = q, fun _ => False⟩
theorem foot_all (q b : Nat) : (theFoot q).all b ↔ b = q := ⟨fun h => h.elim id False.elim, fun h => .inl h⟩
theorem taken_lt {w : World} (h : Taken w) : 0 < w.heap.size := World.block_lt_of_cell? w _ (h 0 (by decide))
theorem rec_some {o : Option (Nat × List UInt8)} {t : Nat} {x : List UInt8} (h : o = some (t, x)) : recT o = (t, x) := by rw [h]; rfl
theorem rec_none {o : Option (Nat × List UInt8)} (h : o = none) : recT o = (0, []) := by rw [h]; rfl
def theSup : SupOK := {
  T := Taken
  tk := fun h hk => h.keep hk
  enc := encS
  dec := decS
  encLen := fun t x hx _ ht => encS_len t x hx ht
  decEnc := fun t x hx h1 ht => decS_enc t x hx h1 ht
  decBlank := decS_blank
  decBad := fun t x i b hx _ ht hi hb => decS_bad t x i b hx ht hi hb
  rep := SAt
  wf := fun h => h.wf
  lt := fun h => h.lt
  keep := fun h hk => h.keep hk
  make := fun W w p F s hd hT hk hF i A c G l hi hr hG hlc hc hA hl hcalls => by
    have hT0 := taken_lt hT
    refine (smake_any w (hT.keep hk) p F s hd (fun b hb e => by have := hF b (.inl hb); omega) i hi hcalls A c G l hr hG hlc hc hl).mono ?_
    rintro e w' ⟨q, F', rfl, hd', hb', hq, hqF, hst⟩
    refine ⟨q, F', theFoot q, s.calls + 5, rfl, hd', by omega, ⟨hb', ⟨Nat.zero_le 1, Nat.le_refl 1, hl⟩, foot_all q, rfl⟩, hst, fun b hb => by rw [(foot_all q b).1 hb]; exact hq, ⟨fun b hb hf => ?_, fun b hb hf => ?_⟩⟩
    · rw [(foot_all q b).1 hf] at hb; exact hqF (.inl hb)
    · rw [show b = q from hb] at hf; exact hqF hf
  open_ := fun w p F s hd hT i k t x hi hk h1 h2 ht => by
    refine (sopen_any w hT p F s hd i hi).mono ?_
    intro e w' h
    obtain ⟨w1, w2, w3⟩ := decS_wf h1
    have hk01 : k = 0 ∨ k = 1 := by omega
    rcases hk01 with rfl | rfl
    · have e1 := rec_some h1
      rw [Nat.add_zero] at e1
      unfold OpenPost at h
      rw [e1] at h
      have hle : (recT (decS (s.now.getD (i + 1) []))).1 < t := by
        cases h3 : decS (s.now.getD (i + 1) []) with
        | none => exact w1
        | some r => exact h2 r.1 r.2 h3
      rcases h with ⟨_, _, q, rfl, hb, hq, hkp⟩ | ⟨h3, _⟩ | ⟨h3, _⟩
      · exact ⟨q, theFoot q, rfl, ⟨hb, ⟨by omega, w1, w3⟩, foot_all q, rfl⟩, fun b hb => by rw [(foot_all q b).1 hb]; exact hq, hkp⟩
      · simp only at h3; omega
      · simp only at h3; omega
    · have e1 := rec_some h1
      unfold OpenPost at h
      rw [e1] at h
      have hle : (recT (decS (s.now.getD i []))).1 < t := by
        cases h3 : decS (s.now.getD i []) with
        | none => exact w1
        | some r => exact h2 r.1 r.2 h3
      rcases h with ⟨h3, _⟩ | ⟨_, q, rfl, hb, hq, hkp⟩ | ⟨_, h3, _⟩
      · simp only at h3; omega
      · exact ⟨q, theFoot q, rfl, ⟨hb, ⟨by omega, w1, w3⟩, foot_all q, rfl⟩, fun b hb => by rw [(foot_all q b).1 hb]; exact hq, hkp⟩
      · simp only at h3; omega
  openBad := fun w p F s hd hT i hi h1 h2 => by
    refine (sopen_any w hT p F s hd i hi).mono ?_
    intro e w' h
    unfold OpenPost at h
    rw [rec_none h1, rec_none h2] at h
    rcases h with ⟨_, h3, _⟩ | ⟨h3, _⟩ | ⟨_, _, rfl, hkp⟩
    · simp only at h3; omega
    · simp only at h3; omega
    · exact ⟨rfl, hkp⟩
  openNo := fun w p F s hd _ i h1 h2 hi => sopen_range w p F s hd i h1 h2 hi
  makeNo := fun w p F s hd _ i A c G l q hr hlc hc hA h1 h2 h => by
    rcases h with ⟨hi, hl, rfl⟩ | ⟨hi, hl, rfl⟩
    · exact smake_range w p F s hd i h1 h2 hi _
    · obtain ⟨k, rfl⟩ : ∃ k : Nat, i = (k : Int) := ⟨i.toNat, by omega⟩
      exact smake_form w p F s hd k (by omega) A l.length c hl (by omega)
  save := fun W w p q F Fs s st hd hs hp ha hT hk hF hroom hsec hcalls hturn A c G l hr hG hGs hlc hc hA hl => by
    subst hp
    have hT0 := taken_lt hT
    have hw := hs.wf
    have hsm := hd.ok.small
    refine (ssave_yes w (hT.keep hk) q st.dev (st.place + st.which) (st.place + (1 - st.which)) st.turn st.text hs.blk F s hd (ha.r q hs.m) (fun hm => by have := hF _ (.inl hm); omega) (by omega) (by omega) hturn (by omega) A c G l hr hG (fun b hb e => hGs b hb ((hs.is b).2 e)) hlc hc hl).mono ?_
    rintro e w' ⟨rfl, F', hd', hb', hkp, hm', hi'⟩
    have hqlt := hs.lt q (.inl hs.m)
    refine ⟨rfl, F', Fs, s.calls + 2, hd', by omega, ⟨?_, ⟨by show 1 - st.which ≤ 1; omega, by show 1 ≤ st.turn + 1; omega, hl⟩, hs.is, hs.m⟩, ⟨fun b hb hf => ?_, fun b hb hf => ?_⟩, hkp.mono fun b _ hb => ⟨hb.1, fun e => hb.2 (by rw [e]; exact hs.m)⟩, hm', hi', fun b hb => .inl hb, fun b hb => .inl (.inr hb)⟩
    · show SBlk w' q st.dev (st.place + (1 - st.which)) (st.place + (1 - (1 - st.which))) (st.turn + 1) l
      rw [show 1 - (1 - st.which) = st.which by omega]
      exact hb'
    · rw [(hs.is b).1 hf] at hb
      rcases hm' q hb with h1 | h1
      · exact ha.l q h1 (.inl hs.m)
      · omega
    · rw [(hs.is b).1 (.inl hb)] at hf
      rcases hf with hf | hf
      · rcases hm' q hf with h1 | h1
        · exact ha.l q h1 (.inl hs.m)
        · omega
      · rcases hi' q hf with h1 | h1
        · exact ha.r q hs.m h1
        · omega
  saveNo := fun w p q F Fs s st hd hs _ _ A c G l hr hlc hc hA hl => ssave_no w q p 0 0 0 [] A l.length c hl (by omega)
  text := fun w p q F Fs s st _ hs _ _ _ _ => stext_any w q Fs st hs
  saveNil := ssave_nil
  textNil := stext_nil
}
end Go.Proofs.YtmnjdlnjhomhnaaDoor
