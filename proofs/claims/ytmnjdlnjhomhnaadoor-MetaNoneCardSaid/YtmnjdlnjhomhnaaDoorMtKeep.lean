/-
  THE PROGRAM's KEEPER OF METAS on slots of a device, wherever they lie: Make, Open, Save (layer 12).
-/
import Derived.Test.YtmnjdlnjhomhnaaDoorMtCode
import Derived.Test.YtmnjdlnjhomhnaaDoorSuperMake
import Derived.Deep.RegionWith
namespace Go.Proofs.YtmnjdlnjhomhnaaDoor
open Go Go.RowKit Go.Joins
structure Kep (W w : World) (p q k : Nat) (F Fs : Foot) (s : SDev) (st : SSt) (m : M4) : Prop where
  du : Duo theSup W w p q F Fs s st
  kb : KBlk w k q m
  may : mayB m = true
  txt : st.text = encM m
  nf : ¬ F.all k
  ns : ¬ Fs.all k
  gk : W.heap.size ≤ k
section
variable {W w w' : World} {p q k : Nat} {F Fs : Foot} {s : SDev} {st : SSt} {m : M4}
theorem Kep.keep (h : Kep W w p q k F Fs s st m) (hk : Kp w w') : Kep W w' p q k F Fs s st m :=
  ⟨h.du.keep hk, h.kb.keep hk trivial, h.may, h.txt, h.nf, h.ns, h.gk⟩
end
theorem conv_room (w : World) (x : List UInt8) (hx : x.length ≤ 40) : ∃ (w1 : World) (cap : Nat), (convert 9 45 (.string (txt x))).run Tryd.prog w = .ok (.slice (some ⟨w.heap.size, 0, none⟩) x.length cap) w1 ∧
    Row w1 (some ⟨w.heap.size, 0, none⟩) (fun b => w.heap.size ≤ b ∧ b < w1.heap.size) (bcells x) ∧ x.length ≤ cap ∧ cap ≤ maxLen ∧ Keeps (fun _ => True) w w1 := by
  have h := run_bytes_of_string (P := Tryd.prog) w 9 45 5 (txt x) Tryd.underlying9 Tryd.underlying45 Tryd.underlying5
  rw [txt_size] at h
  refine ⟨_, _, h, ?_, grownCap_ge w _ _ _, grownCap_le_maxLen w _ _ _ (by unfold maxLen; omega), ((Keeps.refl _ w).drew).alloc _⟩
  intro _
  refine ⟨_, 0, rfl, ⟨Nat.le_refl _, by simp⟩, fun i v hv => ?_⟩
  have hi : i < x.length := by
    have := (List.getElem?_eq_some_iff.1 hv).1
    rwa [bcells_len] at this
  rw [Nat.zero_add]
  refine (cell_alloc_mark_at w.drew _ _ _ w.heap.size i rfl).trans ?_
  unfold bytesRow
  rw [Array.getElem?_append_left (by simpa [txt] using hi), ← hv]
  simp [bcells, txt]
  rfl
theorem text_room {W w : World} {p q : Nat} {F Fs : Foot} {s : SDev} {st : SSt} (h : Duo theSup W w p q F Fs s st) :
    Calls Tryd.prog 27 #[.pointer (some ⟨q, 0, none⟩)] w fun e w' => ∃ A c, e = .returned (.slice A st.text.length c) ∧ Row w' A (fun b => w.heap.size ≤ b ∧ b < w'.heap.size) (bcells st.text) ∧ st.text.length ≤ c ∧ c ≤ maxLen ∧ Kp w w' := by
  have hs : SAt w q Fs st := h.su
  have c1 : w.cell? ⟨q, 1, none⟩ = some (.string (txt st.text)) := (cell_of_block hs.blk 1).trans rfl
  obtain ⟨w1, cap, hcv, hr, h1, h2, hk⟩ := conv_room w st.text hs.wf.2.2
  have HR := Lib.hid hr
  have HK := Lib.hid hk
  have H1 := Lib.hid h1
  have H2 := Lib.hid h2
  clear h hr hk hs h1 h2
  generalize st.text = x at *
  go_enter Tryd.func27, Tryd.ntmps27
  go_wp2_with fail
  go_ret
  exact ⟨_, _, rfl, HR.out, H1.out, H2.out, HK.out⟩
set_option maxRecDepth 100000 in
set_option maxHeartbeats 2000000 in
theorem kmake_yes (W w : World) (hT : theSup.T W) (p : Nat) (F : Foot) (s : SDev) (h : Dv W w p F s) (i : Nat) (hi : i + 2 ≤ s.now.length) (hcalls : s.calls ≤ 549755813888) :
    Calls Tryd.prog 9 #[.pointer (some ⟨p, 0, none⟩), .int .i64 (i : Int)] w fun e w' => ∃ (q k : Nat) (F' Fs : Foot) (n : Nat), e = .returned (.tuple #[.pointer (some ⟨k, 0, none⟩), .int .i64 0]) ∧
      Kep W w' p q k F' Fs (SDev.still ((s.now.set i (theSup.enc 1 (encM m0))).set (i + 1) blank) n) ⟨p, i, 0, 1, encM m0⟩ m0 ∧ n ≤ s.calls + 100 ∧ Step F F' w w' ∧ (∀ b, Fs.all b → w.heap.size ≤ b) ∧ w.heap.size ≤ k := by
  have hm0 : m0.Fits := may_fits (x := m0) (by decide)
  have HENC := Lib.hid (show ∀ w2, Calls Tryd.prog 19 #[.agg #[.int .i64 0, .int .i64 0, .int .i64 0, .bool false]] w2 (EncPost w2 (encM m0)) from fun w2 => mencode_any w2 m0 hm0)
  have hl := encM_len hm0
  have HMK := Lib.hid (show ∀ (w1 w2 : World) (A : Option Addr) (c : Nat), Kp w w1 → (encM m0).length ≤ c → c ≤ maxLen → (A = none → c = 0) → Row w2 A (fun b => w.heap.size ≤ b ∧ b < w2.heap.size) (bcells (encM m0)) → Kp w w2 → _ from fun w1 w2 A c _ h1 h2 h3 h4 hk =>
    duo_make theSup hT (h.keep hk) i (i : Int) rfl A c (encM m0) (encM m0).length rfl hi (h4.mono fun b _ hb hf => by have := h.d.lt b hf; omega) h1 h2 h3 hl hcalls)
  have HST := Lib.hid (show ∀ (w2 w3 : World) (F' : Foot), Kp w w2 → Step F F' w2 w3 → Step F F' w w3 ∧ (∀ b, F'.all b → b < w.heap.size → F.all b) from fun w2 w3 F' hk hst => by
    refine ⟨(Step.of_keeps (hk.mono fun _ _ _ => trivial) F).trans hst, fun b hb hlt => ?_⟩
    rcases hst.all b hb with h1 | h1
    · exact h1
    · have := hk.size; omega)
  have HWK := Lib.hid h.kp
  have HLT := Lib.hid h.d.lt
  clear h hi hcalls hl hT hm0
  obtain ⟨z, hz⟩ : ∃ z : Int, (i : Int) = z := ⟨_, rfl⟩
  rw [hz] at HMK ⊢
  clear hz
  go_enter Tryd.func9, Tryd.ntmps9
  go_wp2_with fail
  refine (show Calls _ _ _ _ _ from HENC.out _).mono ?_
  rintro e w1 ⟨A, c, rfl, h1, h2, h3, h4, h5⟩
  have HC := Lib.hid (HMK.out w1 w1 A c h5 h1 h2 h3 h4 h5)
  have HK1 := Lib.hid h5
  clear h1 h2 h3 h4 h5 HMK HENC
  generalize hL : encM m0 = L at HC
  go_wp2_with fail
  refine (show Calls _ _ _ _ _ from HC.out).mono ?_
  rintro e w2 ⟨q, F', Fs, n, rfl, hd, hn, hst, hfs⟩
  have hb := KBlk.new w2 q m0 w2.heap.size rfl
  have hd2 := hd.keep ((Keeps.refl _ w2).alloc (.cells #[.pointer (some ⟨q, 0, none⟩), .int .i64 0, .int .i64 0, .int .i64 0, .bool false] 48))
  have hF : ¬ F'.all w2.heap.size := fun hf => by have := hd.dv.d.lt _ hf; omega
  have hFs : ¬ Fs.all w2.heap.size := fun hf => by have := theSup.lt hd.su _ hf; omega
  obtain ⟨hst1, -⟩ := HST.out w1 w2 F' HK1.out hst
  have hsz := hd.dv.kp.size
  have hst2 : Step F F' w (w2.alloc (.cells #[.pointer (some ⟨q, 0, none⟩), .int .i64 0, .int .i64 0, .int .i64 0, .bool false] 48)) := hst1.alloc _
  have hsz2 : w.heap.size ≤ w2.heap.size := hst1.keeps.size
  have HQ := Lib.hid (show ∃ (q' k : Nat) (F'' Fs' : Foot) (n' : Nat), Ending.returned (.tuple #[.pointer (some ⟨w2.heap.size, 0, none⟩), .int .i64 0]) = .returned (.tuple #[.pointer (some ⟨k, 0, none⟩), .int .i64 0]) ∧
      Kep W (w2.alloc (.cells #[.pointer (some ⟨q, 0, none⟩), .int .i64 0, .int .i64 0, .int .i64 0, .bool false] 48)) p q' k F'' Fs' (SDev.still ((s.now.set i (theSup.enc 1 L)).set (i + 1) blank) n') ⟨p, i, 0, 1, L⟩ m0 ∧ n' ≤ s.calls + 100 ∧ Step F F'' w (w2.alloc (.cells #[.pointer (some ⟨q, 0, none⟩), .int .i64 0, .int .i64 0, .int .i64 0, .bool false] 48)) ∧ (∀ b, Fs'.all b → w.heap.size ≤ b) ∧ w.heap.size ≤ k from
    ⟨q, w2.heap.size, F', Fs, n, rfl, ⟨hd2, hb, by decide, hL.symm, hF, hFs, hsz⟩, hn, hst2, fun b hb => Nat.le_trans HK1.out.size (hfs b hb), hsz2⟩)
  rw [← hL] at HQ
  clear hb hd2 hF hFs hst1 hsz hst2 hsz2 hd hn hst hfs hL HC HST HK1 HWK HLT
  go_wp2_with fail
  go_ret2
  exact HQ.out
set_option maxRecDepth 100000 in
set_option maxHeartbeats 2000000 in
theorem kmake_no (W w : World) (hT : theSup.T w) (p : Nat) (F : Foot) (s : SDev) (h : Dv W w p F s) (i : Nat) (hi : s.now.length < i + 2) (hi2 : i ≤ 1099511627776) :
    Calls Tryd.prog 9 #[.pointer (some ⟨p, 0, none⟩), .int .i64 (i : Int)] w fun e w' => (∃ v, e = .returned (.tuple #[v, .int .i64 4])) ∧ Kp w w' := by
  have hm0 : m0.Fits := may_fits (x := m0) (by decide)
  have HENC := Lib.hid (show ∀ w2, Calls Tryd.prog 19 #[.agg #[.int .i64 0, .int .i64 0, .int .i64 0, .bool false]] w2 (EncPost w2 (encM m0)) from fun w2 => mencode_any w2 m0 hm0)
  have hl := encM_len hm0
  have HMK := Lib.hid (show ∀ (w1 : World) (A : Option Addr) (c : Nat), Kp w w1 → (encM m0).length ≤ c → c ≤ maxLen → (A = none → c = 0) → Row w1 A (fun b => w.heap.size ≤ b ∧ b < w1.heap.size) (bcells (encM m0)) → _ from fun w1 A c hk h1 h2 h3 h4 =>
    theSup.makeNo w1 p F s (h.keep hk).d (theSup.tk hT hk) (i : Int) A c _ (encM m0) 4 h4 h1 h2 h3 (by omega) (by omega) (.inl ⟨.inr (by omega), hl, rfl⟩))
  clear h hi hi2 hl hT hm0
  obtain ⟨z, hz⟩ : ∃ z : Int, (i : Int) = z := ⟨_, rfl⟩
  rw [hz] at HMK ⊢
  clear hz
  go_enter Tryd.func9, Tryd.ntmps9
  go_wp2_with fail
  refine (show Calls _ _ _ _ _ from HENC.out _).mono ?_
  rintro e w1 ⟨A, c, rfl, h1, h2, h3, h4, h5⟩
  have HC := Lib.hid (HMK.out w1 A c h5 h1 h2 h3 h4)
  have HK1 := Lib.hid h5
  clear h1 h2 h3 h4 h5 HMK HENC
  generalize encM m0 = L at HC
  go_wp2_with fail
  refine (show Calls _ _ _ _ _ from HC.out).mono ?_
  rintro e w2 ⟨⟨v, rfl⟩, hk⟩
  have HK2 := Lib.hid (HK1.out.trans hk)
  clear hk HK1 HC
  go_wp2_with fail
  go_ret2
  exact ⟨⟨_, rfl⟩, HK2.out⟩
set_option maxRecDepth 100000 in
set_option maxHeartbeats 2000000 in
theorem kopen_bad (w : World) (hT : theSup.T w) (p : Nat) (F : Foot) (s : SDev) (h : DAt w p F s) (i : Nat) (hi : i + 2 ≤ s.now.length) (h1 : theSup.dec (s.now.getD i []) = none) (h2 : theSup.dec (s.now.getD (i + 1) []) = none) :
    Calls Tryd.prog 14 #[.pointer (some ⟨p, 0, none⟩), .int .i64 (i : Int)] w fun e w' => (∃ v, e = .returned (.tuple #[v, .int .i64 3])) ∧ Kp w w' := by
  have HC := Lib.hid (theSup.openBad w p F s h hT i hi h1 h2)
  clear h h1 h2 hi hT
  obtain ⟨z, hz⟩ : ∃ z : Int, (i : Int) = z := ⟨_, rfl⟩
  rw [hz] at HC ⊢
  clear hz
  go_enter Tryd.func14, Tryd.ntmps14
  go_wp2_with fail
  refine (show Calls _ _ _ _ _ from HC.out).mono ?_
  rintro e w2 ⟨rfl, hk⟩
  have HK := Lib.hid hk
  clear hk HC
  go_wp2_with fail
  go_ret2
  exact ⟨⟨_, rfl⟩, HK.out⟩
set_option maxRecDepth 100000 in
set_option maxHeartbeats 2000000 in
theorem kopen_yes (W w : World) (hT : theSup.T W) (p : Nat) (F : Foot) (s : SDev) (h : Dv W w p F s) (i wh t : Nat) (m : M4) (hm : mayB m = true) (hi : i + 2 ≤ s.now.length) (hw : wh ≤ 1) (ht1 : 1 ≤ t) (h1 : s.now.getD (i + wh) [] = theSup.enc t (encM m)) (h2 : ∀ t' x', theSup.dec (s.now.getD (i + (1 - wh)) []) = some (t', x') → t' < t) (ht : t ≤ 549755813888) :
    Calls Tryd.prog 14 #[.pointer (some ⟨p, 0, none⟩), .int .i64 (i : Int)] w fun e w' => ∃ (q k : Nat) (Fs : Foot), e = .returned (.tuple #[.pointer (some ⟨k, 0, none⟩), .int .i64 0]) ∧ Kep W w' p q k F Fs s ⟨p, i, wh, t, encM m⟩ m ∧ (∀ b, Fs.all b → w.heap.size ≤ b) ∧ w.heap.size ≤ k ∧ Kp w w' := by
  have hl := encM_len (may_fits hm)
  have HC := Lib.hid (duo_open theSup hT h i wh t (encM m) (i : Int) rfl hi hw hl ht1 h1 h2 ht)
  have HTX := Lib.hid (show ∀ (w1 : World) (q : Nat) (Fs : Foot), Duo theSup W w1 p q F Fs s ⟨p, i, wh, t, encM m⟩ → Calls Tryd.prog 27 #[.pointer (some ⟨q, 0, none⟩)] w1 fun e w' => ∃ A c, e = .returned (.slice A (encM m).length c) ∧ Row w' A (fun b => w1.heap.size ≤ b ∧ b < w'.heap.size) (bcells (encM m)) ∧ (encM m).length ≤ c ∧ c ≤ maxLen ∧ Kp w1 w' from fun w1 q Fs hd => text_room hd)
  have HDE := Lib.hid (show ∀ (w1 : World) (A : Option Addr) (c : Nat), Row w1 A (fun _ => True) (bcells (encM m)) → (encM m).length ≤ c → c ≤ maxLen → _ from fun w1 A c hr h1 h2 => mdecode_yes w1 A c m hr h1 h2 hm)
  have HM := Lib.hid hm
  clear h h1 h2 hi hT hw ht1 ht hl hm
  obtain ⟨z, hz⟩ : ∃ z : Int, (i : Int) = z := ⟨_, rfl⟩
  rw [hz] at HC ⊢
  clear hz
  obtain ⟨bo, ep, re, fr⟩ := m
  generalize hL : encM ⟨bo, ep, re, fr⟩ = L at HC HTX HDE
  have HL := Lib.hid hL
  clear hL
  unfold magg at HDE
  go_enter Tryd.func14, Tryd.ntmps14
  go_wp2_with fail
  refine (show Calls _ _ _ _ _ from HC.out).mono ?_
  rintro e w1 ⟨q, Fs, rfl, hd, hf, hk⟩
  have HD := Lib.hid hd
  have HF := Lib.hid hf
  have HK := Lib.hid hk
  clear hd hf hk HC
  go_wp2_with fail
  refine (show Calls _ _ _ _ _ from HTX.out _ _ _ HD.out).mono ?_
  rintro e w2 ⟨A, c, rfl, hr, hlc, hc, hk2⟩
  have HDE2 := Lib.hid (HDE.out w2 A c (hr.mono fun _ _ _ => trivial) hlc hc)
  replace HD := Lib.hid (HD.out.keep hk2)
  replace HK := Lib.hid (HK.out.trans hk2)
  clear hr hlc hc hk2 HTX HDE
  go_wp2_with fail
  refine (show Calls _ _ _ _ _ from HDE2.out).mono ?_
  rintro e w3 ⟨rfl, hk3⟩
  replace HD := Lib.hid (HD.out.keep hk3)
  replace HK := Lib.hid (HK.out.trans hk3)
  clear hk3 HDE2
  go_wp2_with fail
  go_ret2
  have ka : Kp w3 ((w3.alloc (.cells #[.int .i64 bo, .int .i64 ep, .int .i64 re, .bool fr] 32)).alloc (.cells #[.pointer (some ⟨q, 0, none⟩), .int .i64 bo, .int .i64 ep, .int .i64 re, .bool fr] 48)) := ((Keeps.refl _ w3).alloc _).alloc _
  have hb := KBlk.new (w3.alloc (.cells #[.int .i64 bo, .int .i64 ep, .int .i64 re, .bool fr] 32)) q ⟨bo, ep, re, fr⟩ (w3.heap.size + 1) (by simp)
  have hlt : ∀ b, F.all b → b < w3.heap.size := HD.out.dv.d.lt
  have hlts : ∀ b, Fs.all b → b < w3.heap.size := fun b hb => theSup.lt HD.out.su b hb
  have hsz := HD.out.dv.kp.size
  have hsz2 := HK.out.size
  exact ⟨q, w3.heap.size + 1, Fs, rfl, ⟨HD.out.keep ka, hb, HM.out, HL.out.symm, fun hf => by have := hlt _ hf; omega, fun hf => by have := hlts _ hf; omega, by omega⟩, HF.out, by omega, HK.out.trans ka⟩
end Go.Proofs.YtmnjdlnjhomhnaaDoor
