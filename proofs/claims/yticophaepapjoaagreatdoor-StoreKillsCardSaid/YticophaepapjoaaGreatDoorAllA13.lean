/-
  SuperIf, SuperMade, SuperSave: texts of mine, joined.
-/
import Derived.Test.YticophaepapjoaaGreatDoorAllA10
import Derived.Test.YticophaepapjoaaGreatDoorAllA11
namespace Go.Proofs.YticophaepapjoaaGreatDoor
open Go Go.RowKit Go.Joins
structure SSt where
 dev : Nat
 place : Nat
 which : Nat
 turn : Nat
 text : List UInt8
structure SupOK where
 T : World → Prop
 tk : ∀ {w w' : World}, T w → Keeps (fun _ => True) w w' → T w'
 enc : Nat → List UInt8 → List UInt8
 dec : List UInt8 → Option (Nat × List UInt8)
 decEnc : ∀ (t : Nat) (x : List UInt8), x.length ≤ 40 → 1 ≤ t → t ≤ 1099511627776 → dec (enc t x) = some (t, x)
 decBlank : dec blank = none
 rep : World → Nat → Foot → SSt → Prop
 wf : ∀ {w q F st}, rep w q F st → st.which ≤ 1 ∧ 1 ≤ st.turn ∧ st.text.length ≤ 40
 lt : ∀ {w q F st}, rep w q F st → ∀ b, F.all b → b < w.heap.size
 keep : ∀ {w w' q F st}, rep w q F st → Keeps F.all w w' → rep w' q F st
 make : ∀ (W w : World) (p : Nat) (F : Foot) (s : SDev), DAt w p F s → T W → Keeps (fun _ => True) W w → (∀ b, F.all b → W.heap.size ≤ b) → ∀ (i : Nat) (A : Option Addr) (c : Nat) (G : Nat → Prop) (l : List UInt8), i + 2 ≤ s.now.length → Row w A G (bcells l) → (∀ b, G b → ¬ F.all b) → l.length ≤ c → c ≤ maxLen → (A = none → c = 0) → l.length ≤ 40 → s.calls ≤ 549755813888 →
  Calls Tryz.prog 65 #[.pointer (some ⟨p, 0, none⟩), .int .i64 i, .slice A l.length c] w fun e w' => ∃ (q : Nat) (F' Fs : Foot) (n : Nat), e = .returned (.tuple #[.pointer (some ⟨q, 0, none⟩), .int .i64 0]) ∧
   DAt w' p F' (SDev.still ((s.now.set i (enc 1 l)).set (i + 1) blank) n) ∧ n ≤ s.calls + 100 ∧ rep w' q Fs ⟨p, i, 0, 1, l⟩ ∧ Step F F' w w' ∧ (∀ b, Fs.all b → w.heap.size ≤ b) ∧ Apart F' Fs
 open_ : ∀ (w : World) (p : Nat) (F : Foot) (s : SDev), DAt w p F s → T w → ∀ (i k t : Nat) (x : List UInt8), i + 2 ≤ s.now.length → k ≤ 1 → dec (s.now.getD (i + k) []) = some (t, x) → (∀ t' x', dec (s.now.getD (i + (1 - k)) []) = some (t', x') → t' < t) → t ≤ 549755813888 →
  Calls Tryz.prog 82 #[.pointer (some ⟨p, 0, none⟩), .int .i64 i] w fun e w' => ∃ (q : Nat) (Fs : Foot), e = .returned (.tuple #[.pointer (some ⟨q, 0, none⟩), .int .i64 0]) ∧ rep w' q Fs ⟨p, i, k, t, x⟩ ∧ (∀ b, Fs.all b → w.heap.size ≤ b) ∧ Keeps (fun _ => True) w w'
 save : ∀ (W w : World) (p q : Nat) (F Fs : Foot) (s : SDev) (st : SSt), DAt w p F s → rep w q Fs st → st.dev = p → Apart F Fs → T W → Keeps (fun _ => True) W w → (∀ b, F.all b → W.heap.size ≤ b) → st.place + 2 ≤ s.now.length → s.now.getD (st.place + st.which) [] = enc st.turn st.text → s.calls ≤ 549755813888 → st.turn ≤ 549755813888 →
  ∀ (A : Option Addr) (c : Nat) (G : Nat → Prop) (l : List UInt8), Row w A G (bcells l) → (∀ b, G b → ¬ F.all b) → (∀ b, G b → ¬ Fs.all b) → l.length ≤ c → c ≤ maxLen → (A = none → c = 0) → l.length ≤ 40 →
  Calls Tryz.prog 50 #[.pointer (some ⟨q, 0, none⟩), .slice A l.length c] w fun e w' => e = .returned (.int .i64 0) ∧ ∃ (F' Fs' : Foot) (n : Nat), DAt w' p F' (SDev.still (s.now.set (st.place + (1 - st.which)) (enc (st.turn + 1) l)) n) ∧ n ≤ s.calls + 100 ∧ rep w' q Fs' ⟨p, st.place, 1 - st.which, st.turn + 1, l⟩ ∧
   Apart F' Fs' ∧ Keeps (fun b => ¬ F.M b ∧ ¬ Fs.M b) w w' ∧ (∀ b, F'.M b → F.M b ∨ w.heap.size ≤ b) ∧ (∀ b, F'.I b → F.all b ∨ w.heap.size ≤ b) ∧ (∀ b, Fs'.M b → Fs.M b ∨ w.heap.size ≤ b) ∧ (∀ b, Fs'.I b → Fs.all b ∨ w.heap.size ≤ b)
structure Duo (S : SupOK) (W w : World) (p q : Nat) (F Fs : Foot) (s : SDev) (st : SSt) : Prop where
 dv : Dv W w p F s
 su : S.rep w q Fs st
 ap : Apart F Fs
 gs : ∀ b, Fs.all b → W.heap.size ≤ b
 on : st.dev = p
 room : st.place + 2 ≤ s.now.length
 sec : s.now.getD (st.place + st.which) [] = S.enc st.turn st.text
section
variable {S : SupOK} {W w w' : World} {p q : Nat} {F F' Fs Fs' : Foot} {s s' : SDev} {st : SSt}
theorem Duo.keep (h : Duo S W w p q F Fs s st) (hk : Keeps (fun _ => True) w w') : Duo S W w' p q F Fs s st :=
 ⟨h.dv.keep hk, S.keep h.su (hk.mono fun _ _ _ => trivial), h.ap, h.gs, h.on, h.room, h.sec⟩
theorem duo_make (S : SupOK) (hT : S.T W) (h : Dv W w p F s) (i : Nat) (z : Int) (hz : z = (i : Int)) (A : Option Addr) (c : Nat) (l : List UInt8) (n : Nat) (hn : n = l.length) (hi : i + 2 ≤ s.now.length) (hr : Row w A (fun b => ¬ F.all b) (bcells l)) (hlc : l.length ≤ c) (hc : c ≤ maxLen) (hA : A = none → c = 0) (hl : l.length ≤ 40) (hcalls : s.calls ≤ 549755813888) :
  Calls Tryz.prog 65 #[.pointer (some ⟨p, 0, none⟩), .int .i64 z, .slice A n c] w fun e w' => ∃ (q : Nat) (F' Fs : Foot) (k : Nat), e = .returned (.tuple #[.pointer (some ⟨q, 0, none⟩), .int .i64 0]) ∧
   Duo S W w' p q F' Fs (SDev.still ((s.now.set i (S.enc 1 l)).set (i + 1) blank) k) ⟨p, i, 0, 1, l⟩ ∧ k ≤ s.calls + 100 ∧ Step F F' w w' ∧ ∀ b, Fs.all b → w.heap.size ≤ b := by
 subst hz; subst hn
 refine (S.make W w p F s h.d hT h.kp h.gd i A c _ l hi hr (fun b hb => hb) hlc hc hA hl hcalls).mono ?_
 rintro e w' ⟨q, F', Fs, k, rfl, hD, hk, hS, hst, hFs, hap⟩
 refine ⟨q, F', Fs, k, rfl, ⟨h.step hD hst, hS, hap, fun b hb => Nat.le_trans h.kp.size (hFs b hb), rfl, ?_, ?_⟩, hk, hst, hFs⟩
 ·simpa [SDev.still] using hi
 ·show ((s.now.set i (S.enc 1 l)).set (i + 1) blank).getD i [] = S.enc 1 l
  rw [List.getD_eq_getElem?_getD, List.getElem?_set_ne (by omega), List.getElem?_set_self (by omega)]; rfl
theorem duo_save (hT : S.T W) (h : Duo S W w p q F Fs s st) (A : Option Addr) (c : Nat) (l : List UInt8) (n : Nat) (hn : n = l.length) (hr : Row w A (fun b => ¬ F.all b ∧ ¬ Fs.all b) (bcells l)) (hlc : l.length ≤ c) (hc : c ≤ maxLen) (hA : A = none → c = 0) (hl : l.length ≤ 40) (hcalls : s.calls ≤ 549755813888) (ht : st.turn ≤ 549755813888) :
  Calls Tryz.prog 50 #[.pointer (some ⟨q, 0, none⟩), .slice A n c] w fun e w' => e = .returned (.int .i64 0) ∧ ∃ (F' Fs' : Foot) (k : Nat), Duo S W w' p q F' Fs' (SDev.still (s.now.set (st.place + (1 - st.which)) (S.enc (st.turn + 1) l)) k) ⟨p, st.place, 1 - st.which, st.turn + 1, l⟩ ∧ k ≤ s.calls + 100 ∧
   Keeps (fun b => ¬ F.M b ∧ ¬ Fs.M b) w w' ∧ (∀ b, F'.M b → F.M b ∨ w.heap.size ≤ b) ∧ (∀ b, F'.I b → F.all b ∨ w.heap.size ≤ b) ∧ (∀ b, Fs'.M b → Fs.M b ∨ w.heap.size ≤ b) ∧ (∀ b, Fs'.I b → Fs.all b ∨ w.heap.size ≤ b) := by
 subst hn
 refine (S.save W w p q F Fs s st h.dv.d h.su h.on h.ap hT h.dv.kp h.dv.gd h.room h.sec hcalls ht A c _ l hr (fun b hb => hb.1) (fun b hb => hb.2) hlc hc hA hl).mono ?_
 rintro e w' ⟨rfl, F', Fs', k, hD, hk, hS, hap, hkp, f1, f2, f3, f4⟩
 have hsz := h.dv.kp.size
 refine ⟨rfl, F', Fs', k, ⟨⟨hD, fun b hb => ?_, ?_⟩, hS, hap, fun b hb => ?_, rfl, by simpa [SDev.still] using h.room, ?_⟩, hk, hkp, f1, f2, f3, f4⟩
 ·rcases hb with hb | hb
  ·rcases f1 b hb with h1 | h1
   ·exact h.dv.gd b (.inl h1)
   ·omega
  ·rcases f2 b hb with h1 | h1
   ·exact h.dv.gd b h1
   ·omega
 ·exact ⟨hkp.os.trans h.dv.kp.os, hkp.tape.trans h.dv.kp.tape, hkp.output.trans h.dv.kp.output, Nat.le_trans hsz hkp.size, fun b _ hb =>
   (hkp.block b ⟨fun hm => by have := h.dv.gd b (.inl hm); omega, fun hm => by have := h.gs b (.inl hm); omega⟩ (by omega)).trans (h.dv.kp.block b trivial hb)⟩
 ·rcases hb with hb | hb
  ·rcases f3 b hb with h1 | h1
   ·exact h.gs b (.inl h1)
   ·omega
  ·rcases f4 b hb with h1 | h1
   ·exact h.gs b h1
   ·omega
 ·have hw := (S.wf h.su).1
  have hrm := h.room
  show (s.now.set (st.place + (1 - st.which)) (S.enc (st.turn + 1) l)).getD (st.place + (1 - st.which)) [] = _
  rw [List.getD_eq_getElem?_getD, List.getElem?_set_self (by omega)]; rfl
theorem duo_open (S : SupOK) (hT : S.T W) (h : Dv W w p F s) (i k t : Nat) (x : List UInt8) (z : Int) (hz : z = (i : Int)) (hi : i + 2 ≤ s.now.length) (hk1 : k ≤ 1) (hx : x.length ≤ 40) (ht1 : 1 ≤ t) (h1 : s.now.getD (i + k) [] = S.enc t x) (h2 : ∀ t' x', S.dec (s.now.getD (i + (1 - k)) []) = some (t', x') → t' < t) (ht : t ≤ 549755813888) :
  Calls Tryz.prog 82 #[.pointer (some ⟨p, 0, none⟩), .int .i64 z] w fun e w' => ∃ (q : Nat) (Fs : Foot), e = .returned (.tuple #[.pointer (some ⟨q, 0, none⟩), .int .i64 0]) ∧ Duo S W w' p q F Fs s ⟨p, i, k, t, x⟩ ∧ (∀ b, Fs.all b → w.heap.size ≤ b) ∧ Keeps (fun _ => True) w w' := by
 subst hz
 refine (S.open_ w p F s h.d (S.tk hT h.kp) i k t x hi hk1 (by rw [h1]; exact S.decEnc t x hx ht1 (by omega)) h2 ht).mono ?_
 rintro e w' ⟨q, Fs, rfl, hS, hF, hk⟩
 exact ⟨q, Fs, rfl, ⟨h.keep hk, hS, ⟨fun b hb hs => by have := hF b hs; have := h.d.lt b (.inl hb); omega, fun b hb hf => by have := hF b (.inl hb); have := h.d.lt b hf; omega⟩, fun b hb => Nat.le_trans h.kp.size (hF b hb), rfl, hi, h1⟩, hF, hk⟩
end
def Oth (S : SupOK) (rows : List (List UInt8)) (st : SSt) : Prop := ∀ t' x', S.dec (rows.getD (st.place + (1 - st.which)) []) = some (t', x') → t' < st.turn
section
variable {S : SupOK}
theorem oth_save {rows : List (List UInt8)} {st : SSt} (p : Nat) (e l : List UInt8) (hw : st.which ≤ 1) (h1 : 1 ≤ st.turn) (hx : st.text.length ≤ 40) (ht : st.turn ≤ 1099511627776) (hs : rows.getD (st.place + st.which) [] = S.enc st.turn st.text) :
  Oth S (rows.set (st.place + (1 - st.which)) e) ⟨p, st.place, 1 - st.which, st.turn + 1, l⟩ := by
 intro t' x' hd
 have e1 : st.place + (1 - (1 - st.which)) = st.place + st.which := by omega
 simp only [e1] at hd
 rw [List.getD_eq_getElem?_getD, List.getElem?_set_ne (by omega), ← List.getD_eq_getElem?_getD, hs, S.decEnc _ _ hx h1 ht] at hd
 injection hd with hd
 injection hd with hd _
 show t' < st.turn + 1
 omega
theorem oth_make {rows : List (List UInt8)} (p i : Nat) (e l : List UInt8) (hi : i + 2 ≤ rows.length) : Oth S ((rows.set i e).set (i + 1) blank) ⟨p, i, 0, 1, l⟩ := by
 intro t' x' hd
 simp only [Nat.sub_zero] at hd
 rw [List.getD_eq_getElem?_getD, List.getElem?_set_self (by simp; omega)] at hd
 simp only [Option.getD_some] at hd
 rw [S.decBlank] at hd; cases hd
end
def SBlk (w : World) (q p lat sp t : Nat) (x : List UInt8) : Prop :=
 w.heap[q]? = some (.cells #[.int .i64 (t : Int), .string (txt x), .pointer (some ⟨p, 0, none⟩), .int .i64 (lat : Int), .int .i64 (sp : Int)] 143 (0, 0))
theorem SBlk.keep {w w' : World} {q p lat sp t : Nat} {x : List UInt8} {G : Nat → Prop} (h : SBlk w q p lat sp t x) (hk : Keeps G w w') (hG : G q) : SBlk w' q p lat sp t x := by
 have hlt : q < w.heap.size := (Array.getElem?_eq_some_iff.1 h).1
 exact (hk.block q hG hlt).trans h
structure SAt (w : World) (q : Nat) (F : Foot) (st : SSt) : Prop where
 blk : SBlk w q st.dev (st.place + st.which) (st.place + (1 - st.which)) st.turn st.text
 wf : st.which ≤ 1 ∧ 1 ≤ st.turn ∧ st.text.length ≤ 40
 is : ∀ b, F.all b ↔ b = q
 m : F.M q
theorem SAt.keep {w w' : World} {q : Nat} {F : Foot} {st : SSt} (h : SAt w q F st) (hk : Keeps F.all w w') : SAt w' q F st :=
 ⟨h.blk.keep hk (.inl h.m), h.wf, h.is, h.m⟩
theorem SAt.lt {w : World} {q : Nat} {F : Foot} {st : SSt} (h : SAt w q F st) : ∀ b, F.all b → b < w.heap.size := fun b hb => by
 rw [(h.is b).1 hb]
 exact (Array.getElem?_eq_some_iff.1 h.blk).1
theorem there_yes (w : World) (p : Nat) (F : Foot) (s : SDev) (h : DAt w p F s) (i : Nat) (hi : i + 2 ≤ s.now.length) :
  Calls Tryz.prog 94 #[.pointer (some ⟨p, 0, none⟩), .int .i64 (i : Int)] w fun e w' => e = .returned (.bool true) ∧ w = w' := by
 have hl := Lib.hid (dlen_any w p F s h)
 have hsm := h.ok.small
 have h1 : decide ((i : Int) < (s.now.length : Int) - 1) = true := by simp; omega
 have h2 : (1 : Int) ≤ (s.now.length : Int) := by omega
 clear h hi
 go_enter Tryz.func94, Tryz.ntmps94
 go_wp2_with fail
 refine hl.out.mono ?_
 rintro e w' ⟨rfl, rfl⟩
 go_wp2_with fail
 go_ret
 exact ⟨rfl, rfl⟩
set_option maxHeartbeats 400000 in
theorem load_any (w : World) (hT : Taken w) (p : Nat) (F : Foot) (s : SDev) (h : DAt w p F s) (i : Nat) (hi : i < s.now.length) :
  Calls Tryz.prog 116 #[.pointer (some ⟨p, 0, none⟩), .int .i64 (i : Int)] w fun e w' => e = .returned (recV (decS (s.now.getD i []))) ∧ Keeps (fun _ => True) w w' := by
 have hsm := h.ok.small
 have hre : s.readE (i : Int) = 0 := if_neg (by omega)
 have hrl : s.readL (i : Int) = s.now.getD i [] := (if_neg (by omega)).trans (by rw [Int.toNat_natCast])
 have hlen : (s.now.getD i []).length = 64 := by rw [getD_mem _ _ _ hi]; exact h.ok.nrow _ (List.getElem_mem hi)
 have hrd := fun w' (hk : Keeps (fun _ => True) w w') => dread_any w' p F s (h.keep (hk.mono fun _ _ _ => trivial)) (i : Int) (by omega) (by omega)
 rw [hre, hrl] at hrd
 generalize s.now.getD i [] = l at hrd hlen ⊢
 have HL := Lib.hid hlen
 have HRD := Lib.hid hrd
 have HT := Lib.hid hT
 clear hre hrl hlen hrd h hT hi hsm
 go_enter Tryz.func116, Tryz.ntmps116
 go_wp2_with fail
 have hk0 := (Keeps.refl (fun _ => True) w).alloc (.cells #[.int .i64 0, .string ⟨#[]⟩] 141)
 have hb0 := heap_alloc_new w (.cells #[.int .i64 0, .string ⟨#[]⟩] 141)
 have hr0 : w.heap.size < (w.alloc (.cells #[.int .i64 0, .string ⟨#[]⟩] 141)).heap.size := by simp
 generalize (w.alloc (.cells #[.int .i64 0, .string ⟨#[]⟩] 141)) = w0 at hk0 hb0 hr0 ⊢
 refine (HRD.out w0 hk0).mono ?_
 rintro e w1 ⟨v, rfl, ho, hk1⟩
 have hb1 := (hk1.block _ trivial hr0).trans hb0
 have hr1 := Nat.lt_of_lt_of_le hr0 hk1.size
 obtain ⟨g, c, rfl, hbase, hlt⟩ := ho.form (by rw [HL.out]; decide)
 have hroom := own_room ho
 have hrow := own_row ho
 have HP := Lib.hid (parse_any w1 (HT.out.keep (hk0.trans hk1)) g 0 c _ l hrow HL.out (by have := hroom.1; rw [HL.out] at this; exact this) hroom.2)
 have HK1 := Lib.hid (hk0.trans hk1)
 have HB1 := Lib.hid hb1
 have HR1 := Lib.hid hr1
 clear hk0 hb0 hr0 hb1 hr1 ho hk1 hbase hlt hroom hrow HRD
 go_wp2_with fail
 rw [HL.out]
 refine HP.out.mono ?_
 rintro e w4 ⟨rfl, hk4⟩
 have hb4 := (hk4.block _ trivial HR1.out).trans HB1.out
 have c0 := (cell_of_block hb4 0).trans rfl
 have c1 := (cell_of_block hb4 1).trans rfl
 have f0 := unfrozen_of_block hb4 0
 have f1 := unfrozen_of_block hb4 1
 have hk := HK1.out.trans hk4
 have HFIN := Lib.hid (show ∀ v0 v1, Keeps (fun _ => True) w ((w4.setCell ⟨w.heap.size, 0, none⟩ v0).setCell ⟨w.heap.size, 1, none⟩ v1) from fun v0 v1 => (hk.setCell (.inl (Nat.le_refl _)) v0).setCell (.inl (Nat.le_refl _)) v1)
 have HCELL := Lib.hid (show ∀ v0 v1, ((w4.setCell ⟨w.heap.size, 0, none⟩ v0).setCell ⟨w.heap.size, 1, none⟩ v1).cell? ⟨w.heap.size, 0, none⟩ = some v0 ∧ ((w4.setCell ⟨w.heap.size, 0, none⟩ v0).setCell ⟨w.heap.size, 1, none⟩ v1).cell? ⟨w.heap.size, 1, none⟩ = some v1 from fun v0 v1 => by
  have h1 := block_setCell (block_setCell hb4 (i := 0) v0) (i := 1) v1
  exact ⟨(cell_of_block h1 0).trans rfl, (cell_of_block h1 1).trans rfl⟩)
 obtain ⟨t, x, hx⟩ : ∃ (t : Int) (x : ByteArray), recV (decS l) = .agg #[.int .i64 t, .string x] := by
  cases decS l with
  | none => exact ⟨_, _, rfl⟩
  | some r => exact ⟨_, _, rfl⟩
 have HX := Lib.hid hx
 rw [hx]
 clear hb4 hk hk4 hx HB1 HR1 HK1 HP
 go_wp2_with fail
 exact bodyPost_ret (v := .agg #[.int .i64 t, .string x]) (by simp [results, Tryz.results116, go_sem, HCELL.out]) rfl ⟨by rw [HX.out], HFIN.out _ _⟩
theorem write64_now (s : SDev) (i : Nat) (l : List UInt8) (hl : l.length = 64) (hr : (s.now.getD i []).length = 64) : (s.write i l).now = s.now.set i l := by
 show s.now.set i (over l (s.now.getD i [])) = _
 unfold over
 rw [List.drop_of_length_le (by omega), List.append_nil]
theorem row64 {w : World} {p : Nat} {F : Foot} {s : SDev} (h : DAt w p F s) (i : Nat) (hi : i < s.now.length) : (s.now.getD i []).length = 64 := by
 rw [getD_mem _ _ _ hi]; exact h.ok.nrow _ (List.getElem_mem hi)
theorem flush_is (s : SDev) : s.flush = SDev.still s.now (s.calls + 1) := rfl
def blanked (rows : List (List UInt8)) (i : Nat) : Nat → List (List UInt8)
 | 0 => rows
 | 1 => rows.set i blank
 | _ => (rows.set i blank).set (i + 1) blank
theorem blanked_len (rows : List (List UInt8)) (i k : Nat) : (blanked rows i k).length = rows.length := by
 match k with
 | 0 => rfl
 | 1 => simp [blanked]
 | n + 2 => simp [blanked]
theorem blanked_next (rows : List (List UInt8)) (i k : Nat) (hk : k < 2) : (blanked rows i k).set (i + k) blank = blanked rows i (k + 1) := by
 match k, hk with
 | 0, _ => rfl
 | 1, _ => rfl
def Blk (w2 : World) (p : Nat) (F : Foot) (s : SDev) (i k : Nat) (w : World) : Prop := ∃ (F' : Foot) (s' : SDev), DAt w p F' s' ∧ s'.now = blanked s.now i k ∧ s'.calls = s.calls + k ∧ Step F F' w2 w
set_option maxHeartbeats 1000000 in
theorem blank_any (w : World) (p : Nat) (F : Foot) (s : SDev) (h : DAt w p F s) (i : Nat) (hi : i + 2 ≤ s.now.length) (hcalls : s.calls ≤ 549755813888) :
  Calls Tryz.prog 95 #[.pointer (some ⟨p, 0, none⟩), .int .i64 (i : Int)] w fun e w' => e = .returned (.int .i64 0) ∧ ∃ F', DAt w' p F' (SDev.still ((s.now.set i blank).set (i + 1) blank) (s.calls + 3)) ∧ Step F F' w w' := by
 have hsm := h.ok.small
 have HD := Lib.hid h
 have HI := Lib.hid hi
 have hi1 : i ≤ 2048 := by omega
 clear h hi
 go_enter Tryz.func95, Tryz.ntmps95
 go_wp2_with (refine list_make rfl (.const (.int .i64 64)) (.const (.int .i64 64)) 64 rfl byte_elem .i64 .i64 64 rfl rfl (by decide) (by decide) (bcells blank) made64 ?_)
 intro w2 hown hg2
 have hk2 : Keeps (fun _ => True) w w2 := Keeps.of_grown hg2 (fun _ h => by cases h)
 have HR := Lib.hid (own_row hown)
 have HD2 := Lib.hid (HD.out.keep (hk2.mono fun _ _ _ => trivial))
 have hgF : ∀ b, b = w.heap.size → ¬ F.all b := fun b e hf => by have := HD.out.lt b hf; omega
 have hlt2 := (hown.lt _ rfl).2
 have HG := Lib.hid hgF
 have HL2 := Lib.hid hlt2
 have HK := Lib.hid hk2
 clear hown hg2 hk2 hgF hlt2
 go_wp2_with fail
 go_loopw [9] (fun i9 wr => ∃ k : Nat, k ≤ 2 ∧ i9 = .int .i64 k ∧ Blk w2 p F s i k wr) (fun i9 _ => 2 - (intOf i9).toNat)
 case atStart => exact ⟨0, by omega, rfl, F, s, HD2.out, rfl, rfl, Step.refl _ _⟩
 case round =>
  obtain ⟨k, hk, rfl, F', s', hd, hn, hc, hst⟩ := hrel
  by_cases hlt : k < 2
  ·have hlt' : (k : Int) < 2 := by omega
   have hw := dwrite_yes wr p F' s' hd (i + k) (some ⟨w.heap.size, 0, none⟩) 64 (fun b => b = w.heap.size) blank (HR.out.keep (hst.keeps.mono fun b _ e hm => HG.out b e (.inl hm))) (fun b e hf => by
     rcases hst.all b hf with h1 | h1
     ·exact HG.out b e h1
     ·have := HL2.out; subst e; omega) (by rw [hn, blanked_len]; have := HI.out; omega) (Nat.le_refl _) (by omega)
   rw [show blank.length = 64 from rfl, show ((i + k : Nat) : Int) = (i : Int) + (k : Int) from by omega] at hw
   have HW := Lib.hid hw
   have hn2 : (s'.write (i + k) blank).now = blanked s.now i (k + 1) := by
    rw [write64_now s' (i + k) blank rfl (row64 hd _ (by rw [hn, blanked_len]; have := HI.out; omega)), hn, blanked_next _ _ _ hlt]
   have HN := Lib.hid hn2
   have HC := Lib.hid hc
   have HS := Lib.hid hst
   clear hd hn hc hst hw hn2
   go_wp2_with fail
   refine HW.out.mono ?_
   rintro e w3 ⟨rfl, F3, hd3, hst3⟩
   have H3 := Lib.hid (show Blk w2 p F s i (k + 1) w3 from ⟨F3, _, hd3, HN.out, by show s'.calls + 1 = _; rw [HC.out]; rfl, HS.out.trans hst3⟩)
   clear hd3 hst3 HW HN HC HS
   go_wp2_with fail
   go_roundw
   case rel => exact ⟨k + 1, by omega, by go_num, H3.out⟩
   case measure => simp [intOf]; omega
  ·obtain rfl : k = 2 := by omega
   have hf := dflush_any wr p F' s' hd (by omega)
   rw [flush_is, hn, hc] at hf
   have HF := Lib.hid hf
   have HS := Lib.hid hst
   clear hf hst hn hc hd
   go_wp2_with fail
   refine HF.out.mono ?_
   rintro e w3 ⟨rfl, F3, hd3, hst3⟩
   have H3 := Lib.hid (show ∃ F', DAt w3 p F' (SDev.still ((s.now.set i blank).set (i + 1) blank) (s.calls + 3)) ∧ Step F F' w w3 from ⟨F3, hd3, by
    have h := HS.out.trans hst3
    have hk2 := HK.out
    exact ⟨(hk2.mono fun _ _ _ => trivial).trans h.keeps, fun b hb => (h.m b hb).imp id fun h1 => Nat.le_trans hk2.size h1, fun b hb => (h.i b hb).imp id fun h1 => Nat.le_trans hk2.size h1⟩⟩)
   clear hd3 hst3 HF HS
   go_wp2_with fail
   go_ret
   exact ⟨rfl, H3.out⟩
end Go.Proofs.YticophaepapjoaaGreatDoor
