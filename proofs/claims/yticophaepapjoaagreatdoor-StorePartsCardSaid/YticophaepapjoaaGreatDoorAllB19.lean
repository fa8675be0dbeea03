/-
  SuperMake, ItemTake, JnMath, JnRep, JnSmall, Frame, Open, OpenTexts: texts of mine, joined.
-/
import Derived.Test.YticophaepapjoaaGreatDoorAllB18
import Derived.Test.YticophaepapjoaaGreatDoorAllB15
import Derived.Test.YticophaepapjoaaGreatDoorAllB13
import Derived.Test.YticophaepapjoaaGreatDoorAllB06
import Derived.Test.YticophaepapjoaaGreatDoorAllB01
import Derived.Test.YticophaepapjoaaGreatDoorAllB16
import Derived.Test.YticophaepapjoaaGreatDoorAllB04
import Derived.Lib.SmallJoins
import Derived.Test.YticophaepapjoaaGreatDoorAllB00
import Derived.WalkKit
import Derived.ProofKit
import Derived.OpenShut
import Derived.Below
import Derived.Carry
import Derived.LaidMore
import Derived.Stop.Joined
import Derived.Deep.Slices
import Derived.Deep.Fields
import Derived.SliceStrings
open Go.Lib renaming hid → Hd
set_option maxRecDepth 100000
set_option maxHeartbeats 8000000
namespace Go.Proofs.YticophaepapjoaaGreatDoor
open Go Go.RowKit Go.Joins
theorem set_three (rows : List (List UInt8)) (i : Nat) (a b c : List UInt8) : ((rows.set i a).set (i + 1) b).set i c = (rows.set i c).set (i + 1) b := by
 rw [List.set_comm _ _ (show i ≠ i + 1 by omega), List.set_set, List.set_comm _ _ (show i + 1 ≠ i by omega)]
theorem smake_any (w : World) (hT : Taken w) (p : Nat) (F : Foot) (s : SDev) (h : DAt w p F s) (HTM : ∀ b, F.M b → b ≠ 0) (i : Nat) (hi : i + 2 ≤ s.now.length) (hcalls : s.calls ≤ 549755813888)
  (A : Option Addr) (c : Nat) (G : Nat → Prop) (l : List UInt8) (hr : Row w A G (bcells l)) (hG : ∀ b, G b → ¬ F.all b) (hlc : l.length ≤ c) (hc : c ≤ maxLen) (hl : l.length ≤ 40) :
  Calls Tryz.prog 65 #[.pointer (some ⟨p, 0, none⟩), .int .i64 (i : Int), .slice A l.length c] w fun e w' => ∃ (q : Nat) (F' : Foot), e = .returned (.tuple #[.pointer (some ⟨q, 0, none⟩), .int .i64 0]) ∧
   DAt w' p F' (SDev.still ((s.now.set i (encS 1 l)).set (i + 1) blank) (s.calls + 5)) ∧ SBlk w' q p i (i + 1) 1 l ∧ w.heap.size ≤ q ∧ ¬ F'.all q ∧ Step F F' w w' := by
 have hsm := h.ok.small
 have hi1 : i ≤ 2048 := by omega
 have hlen : (l.length : Int) ≤ 40 := by omega
 have HTH := Hd (there_yes w p F s h i hi)
 have HBL := Hd (blank_any w p F s h i hi hcalls)
 have HD := Hd h
 have HT := Hd hT
 have HR := Hd hr.lt
 have HG := Hd hG
 have HM := Hd HTM
 have HI := Hd hi
 clear h hT hi hr hG HTM hsm
 go_enter Tryz.func65, Tryz.ntmps65
 go_wp2_with fail
 refine HTH.out.mono ?_
 rintro e w' ⟨rfl, rfl⟩
 go_wp2_with fail
 refine HBL.out.mono ?_
 rintro e w1 ⟨rfl, F1, hd1, hst1⟩
 have HD1 := Hd hd1
 have HS1 := Hd hst1
 clear hd1 hst1 HBL HTH
 go_wp2_with fail
 have hs1 := HS1.out
 have hk2 : Keeps (fun _ => True) w1 (w1.alloc (.cells #[.int .i64 0, .string ⟨#[]⟩, .pointer (some ⟨p, 0, none⟩), .int .i64 ((i : Int) + 1), .int .i64 (i : Int)] 143)) := (Keeps.refl _ w1).alloc _
 have hb2 := blk_new w1 _ w1.heap.size p (i + 1) i 0 [] ((i : Int) + 1) (by omega) (i : Int) rfl 0 rfl rfl rfl
 rw [show txt [] = (⟨#[]⟩ : ByteArray) from rfl] at hb2
 have hz2 : w1.heap.size < (w1.alloc (.cells #[.int .i64 0, .string ⟨#[]⟩, .pointer (some ⟨p, 0, none⟩), .int .i64 ((i : Int) + 1), .int .i64 (i : Int)] 143)).heap.size := by simp
 generalize (w1.alloc (.cells #[.int .i64 0, .string ⟨#[]⟩, .pointer (some ⟨p, 0, none⟩), .int .i64 ((i : Int) + 1), .int .i64 (i : Int)] 143)) = w2 at hk2 hb2 hz2 ⊢
 have hT2 : Taken w2 := fun j hj => hk2.cell (hs1.keeps.cell (HT.out j hj) (fun hm => HM.out _ hm rfl)) trivial
 have hlt1 := HD1.out.lt
 have hall := hs1.all
 have hsv := ssave_yes w2 hT2 w1.heap.size p (i + 1) i 0 [] hb2 F1 _ (HD1.out.keep (hk2.mono fun _ _ _ => trivial)) (fun hf => by have := hlt1 _ hf; omega) (fun hm => by
   rcases hs1.m _ hm with h1 | h1
   ·exact HM.out _ h1 rfl
   ·have := World.block_lt_of_cell? w _ (HT.out 0 (by decide)); simp only at this; omega) (by simp [SDev.still]; have := HI.out; omega) (by omega) (by omega) (show s.calls + 3 ≤ _ by omega) A c (fun b => G b ∧ b < w.heap.size) l
   (((HR.out.keep (hs1.keeps.mono fun b _ hb hm => HG.out b hb.1 (.inl hm)))).keep (hk2.mono fun _ _ _ => trivial)) (fun b hb hf => by
    rcases hall b hf with h1 | h1
    ·exact HG.out b hb.1 h1
    ·omega) (fun b hb e => by have := hs1.keeps.size; omega) hlc hc hl
 have HSV := Hd hsv
 have HK2 := Hd hk2
 have HLT := Hd hlt1
 have HZ2 := Hd hz2
 clear hsv hk2 hb2 hT2 hlt1 hall hs1 hz2
 go_wp2_with fail
 refine HSV.out.mono ?_
 rintro e w3 ⟨rfl, F3, hd3, hb3, hk3, hm3, hi3⟩
 have H3 := Hd (show DAt w3 p F3 (SDev.still ((s.now.set i (encS 1 l)).set (i + 1) blank) (s.calls + 5)) ∧ SBlk w3 w1.heap.size p i (i + 1) 1 l ∧ w.heap.size ≤ w1.heap.size ∧ ¬ F3.all w1.heap.size ∧ Step F F3 w w3 from by
  have hs1 := HS1.out
  have hk2 := HK2.out
  have e : ((SDev.still ((s.now.set i blank).set (i + 1) blank) (s.calls + 3)).now.set i (encS (0 + 1) l)) = (s.now.set i (encS 1 l)).set (i + 1) blank := set_three s.now i blank blank (encS 1 l)
  rw [e] at hd3
  have hst : Step F1 F3 w1 w3 := ⟨⟨hk3.os.trans hk2.os, hk3.tape.trans hk2.tape, hk3.output.trans hk2.output, Nat.le_trans hk2.size hk3.size, fun b hb hlt => (hk3.block b ⟨hb, by omega⟩ (Nat.lt_of_lt_of_le hlt hk2.size)).trans (hk2.block b trivial hlt)⟩,
   fun b hb => (hm3 b hb).imp id fun h1 => Nat.le_trans hk2.size h1, fun b hb => (hi3 b hb).imp id fun h1 => Nat.le_trans hk2.size h1⟩
  refine ⟨hd3, hb3, hs1.keeps.size, ?_, hs1.trans hst⟩
  intro hf
  have hz := HZ2.out
  have hlt := HLT.out
  rcases hf with hf | hf
  ·rcases hm3 _ hf with h1 | h1
   ·have := hlt _ (.inl h1); omega
   ·omega
  ·rcases hi3 _ hf with h1 | h1
   ·have := hlt _ h1; omega
   ·omega)
 clear hd3 hb3 hk3 hm3 hi3
 go_wp2_with fail
 go_ret2
 exact ⟨_, F3, rfl, H3.out⟩
def theFoot (q : Nat) : Foot := ⟨fun b => b = q, fun _ => False⟩
theorem foot_all (q b : Nat) : (theFoot q).all b ↔ b = q := ⟨fun h => h.elim id False.elim, fun h => .inl h⟩
theorem taken_lt {w : World} (h : Taken w) : 0 < w.heap.size := World.block_lt_of_cell? w _ (h 0 (by decide))
theorem rec_some {o : Option (Nat × List UInt8)} {t : Nat} {x : List UInt8} (h : o = some (t, x)) : recT o = (t, x) := by rw [h]; rfl
def theSup : SupOK := {
 T := Taken
 tk := fun h hk => h.keep hk
 enc := encS
 dec := decS
 decEnc := fun t x hx h1 ht => decS_enc t x hx h1 ht
 decBlank := decS_blank
 rep := SAt
 wf := fun h => h.wf
 lt := fun h => h.lt
 keep := fun h hk => h.keep hk
 make := fun W w p F s hd hT hk hF i A c G l hi hr hG hlc hc hA hl hcalls => by
  have hT0 := taken_lt hT
  refine (smake_any w (hT.keep hk) p F s hd (fun b hb e => by have := hF b (.inl hb); omega) i hi hcalls A c G l hr hG hlc hc hl).mono ?_
  rintro e w' ⟨q, F', rfl, hd', hb', hq, hqF, hst⟩
  refine ⟨q, F', theFoot q, s.calls + 5, rfl, hd', by omega, ⟨hb', ⟨Nat.zero_le 1, Nat.le_refl 1, hl⟩, foot_all q, rfl⟩, hst, fun b hb => by rw [(foot_all q b).1 hb]; exact hq, ⟨fun b hb hf => ?_, fun b hb hf => ?_⟩⟩
  ·rw [(foot_all q b).1 hf] at hb; exact hqF (.inl hb)
  ·rw [show b = q from hb] at hf; exact hqF hf
 open_ := fun w p F s hd hT i k t x hi hk h1 h2 ht => by
  refine (sopen_any w hT p F s hd i hi).mono ?_
  intro e w' h
  obtain ⟨w1, w2, w3⟩ := decS_wf h1
  have hk01 : k = 0 ∨ k = 1 := by omega
  rcases hk01 with rfl | rfl
  ·have e1 := rec_some h1
   rw [Nat.add_zero] at e1
   unfold SuperOpenPost at h
   rw [e1] at h
   have hle : (recT (decS (s.now.getD (i + 1) []))).1 < t := by
    cases h3 : decS (s.now.getD (i + 1) []) with
    | none => exact w1
    | some r => exact h2 r.1 r.2 h3
   rcases h with ⟨_, _, q, rfl, hb, hq, hkp⟩ | ⟨h3, _⟩ | ⟨h3, _⟩
   ·exact ⟨q, theFoot q, rfl, ⟨hb, ⟨by omega, w1, w3⟩, foot_all q, rfl⟩, fun b hb => by rw [(foot_all q b).1 hb]; exact hq, hkp⟩
   ·simp only at h3; omega
   ·simp only at h3; omega
  ·have e1 := rec_some h1
   unfold SuperOpenPost at h
   rw [e1] at h
   have hle : (recT (decS (s.now.getD i []))).1 < t := by
    cases h3 : decS (s.now.getD i []) with
    | none => exact w1
    | some r => exact h2 r.1 r.2 h3
   rcases h with ⟨h3, _⟩ | ⟨_, q, rfl, hb, hq, hkp⟩ | ⟨_, h3, _⟩
   ·simp only at h3; omega
   ·exact ⟨q, theFoot q, rfl, ⟨hb, ⟨by omega, w1, w3⟩, foot_all q, rfl⟩, fun b hb => by rw [(foot_all q b).1 hb]; exact hq, hkp⟩
   ·simp only at h3; omega
 save := fun W w p q F Fs s st hd hs hp ha hT hk hF hroom hsec hcalls hturn A c G l hr hG hGs hlc hc hA hl => by
  subst hp
  have hT0 := taken_lt hT
  have hw := hs.wf
  have hsm := hd.ok.small
  refine (ssave_yes w (hT.keep hk) q st.dev (st.place + st.which) (st.place + (1 - st.which)) st.turn st.text hs.blk F s hd (ha.r q hs.m) (fun hm => by have := hF _ (.inl hm); omega) (by omega) (by omega) hturn (by omega) A c G l hr hG (fun b hb e => hGs b hb ((hs.is b).2 e)) hlc hc hl).mono ?_
  rintro e w' ⟨rfl, F', hd', hb', hkp, hm', hi'⟩
  have hqlt := hs.lt q (.inl hs.m)
  refine ⟨rfl, F', Fs, s.calls + 2, hd', by omega, ⟨?_, ⟨by show 1 - st.which ≤ 1; omega, by show 1 ≤ st.turn + 1; omega, hl⟩, hs.is, hs.m⟩, ⟨fun b hb hf => ?_, fun b hb hf => ?_⟩, hkp.mono fun b _ hb => ⟨hb.1, fun e => hb.2 (by rw [e]; exact hs.m)⟩, hm', hi', fun b hb => .inl hb, fun b hb => .inl (.inr hb)⟩
  ·show SBlk w' q st.dev (st.place + (1 - st.which)) (st.place + (1 - (1 - st.which))) (st.turn + 1) l
   rw [show 1 - (1 - st.which) = st.which by omega]
   exact hb'
  ·rw [(hs.is b).1 hf] at hb
   rcases hm' q hb with h1 | h1
   ·exact ha.l q h1 (.inl hs.m)
   ·omega
  ·rw [(hs.is b).1 (.inl hb)] at hf
   rcases hf with hf | hf
   ·rcases hm' q hf with h1 | h1
    ·exact ha.l q h1 (.inl hs.m)
    ·omega
   ·rcases hi' q hf with h1 | h1
    ·exact ha.r q hs.m h1
    ·omega
}
theorem src_item (W : World) (x : It) : Src Tryz.prog 4 133 (.slice (some ⟨W.heap.size, 0, none⟩) 1 1) 1 x.cells (W.alloc (.cells #[.string x.key, .string x.val, .int .i64 x.till, .bool x.gone] 40)) :=
 Src.ofSlice _ Tryz.underlying133 ⟨W.heap.size, 0, none⟩ 1 1 x.cells rfl (fun j v hv => by
  rw [WideShapes.add_plain, Nat.zero_add]
  exact (cell_alloc_mark_at W _ _ _ W.heap.size j rfl).trans (by rw [← hv, ← Array.getElem?_toList]; rfl)) (fun v hv => by
  simp only [It.cells, List.mem_cons, List.not_mem_nil, or_false] at hv
  rcases hv with rfl | rfl | rfl | rfl <;> rfl)
end Go.Proofs.YticophaepapjoaaGreatDoor
namespace Go.Proofs.YticophaepapjoaaGreatDoor
open Go
def markB (n : Nat) (k : ByteArray) : List UInt8 := putZ (n : Int) ++ putT k.data.toList
theorem markB_len {n : Nat} {k : ByteArray} (hn : n ≤ 40000) (hk : keyOk k) : 1 ≤ (markB n k).length ∧ (markB n k).length ≤ 44 := by
 have kx : k.data.toList.length = k.size := by simp
 have z : ∀ n : Int, 0 ≤ n → zig n = (2 * n).toNat := fun n hn => by unfold zig; rw [if_neg (by omega)]
 have h1 : (putZ (n : Int)).length ≤ 3 := vin_len 2 _ (by rw [z _ (by omega)]; omega)
 have h2 : (putZ (k.data.toList.length : Int)).length ≤ 1 := vin_len 0 _ (by rw [z _ (by omega)]; have := hk.2; omega)
 have h3 : 0 < (putZ (n : Int)).length := vin_pos _
 have h4 := hk.2
 unfold markB putT
 simp only [List.length_append]
 omega
theorem jsnoc_is {α : Type} (l : List α) (h : l ≠ []) : ∃ a b, l = a ++ [b] := ⟨l.dropLast, l.getLast h, (List.dropLast_concat_getLast h).symm⟩
theorem jopened_snoc (l : List LRec) (r : LRec) : opened (l ++ [r]) = l ++ [⟨r.pos, r.body, r.opens + 1⟩] := by
 induction l with
 | nil => rfl
 | cons a l ih =>
  cases l with
  | nil => rfl
  | cons b l => show a :: opened ((b :: l) ++ [r]) = _; rw [ih]; rfl
theorem jopened_key (l : List LRec) : (opened l).map LRec.key = l.map LRec.key := by
 by_cases hl : l = []
 ·subst hl; rfl
 ·obtain ⟨a, r, rfl⟩ := jsnoc_is l hl
  rw [jopened_snoc]; simp [LRec.key]
theorem jopened_len (l : List LRec) : (opened l).length = l.length := by
 have := congrArg List.length (jopened_key l)
 simpa using this
theorem jopened_sum (l : List LRec) : ((opened l).map (·.opens)).sum ≤ (l.map (·.opens)).sum + 1 := by
 by_cases hl : l = []
 ·subst hl; exact Nat.zero_le _
 ·obtain ⟨a, r, rfl⟩ := jsnoc_is l hl
  rw [jopened_snoc]
  simp only [List.map_append, List.sum_append, List.map_cons, List.map_nil, List.sum_cons, List.sum_nil]
  omega
theorem jopened_body (l : List LRec) (i : Nat) (h : i < (opened l).length) (h' : i < l.length) : ((opened l)[i]).body = (l[i]).body := by
 have e := congrArg (fun m => m[i]?) (jopened_key l)
 simp only [List.getElem?_map, List.getElem?_eq_getElem h, List.getElem?_eq_getElem h', Option.map_some, Option.some.injEq] at e
 exact congrArg Prod.snd e
theorem jcosts_le (l : List LRec) (h : ∀ r ∈ l, r.body.length ≤ 44) : costs l ≤ 104 * l.length + 400 * (l.map (·.opens)).sum := by
 induction l with
 | nil => exact Nat.zero_le _
 | cons r l ih =>
  have h1 := ih fun x hx => h x (List.mem_cons_of_mem _ hx)
  have h2 := h r List.mem_cons_self
  have e1 : costs (r :: l) = r.cost + costs l := by simp [costs]
  rw [e1]
  simp only [List.length_cons, List.map_cons, List.sum_cons]
  unfold LRec.cost
  omega
theorem jsum_drop (l : List LRec) (n : Nat) : ((l.drop n).map (·.opens)).sum ≤ (l.map (·.opens)).sum := by
 have e : (l.map (·.opens)).sum = ((l.take n).map (·.opens)).sum + ((l.drop n).map (·.opens)).sum := by
  rw [← List.sum_append, ← List.map_append, List.take_append_drop]
 omega
structure JM (st : JSt) (lst : LSt) : Prop where
 len : lst.hist.length = st.keys.length
 body : ∀ i (h : i < lst.hist.length), (lst.hist[i]).body = markB (i + 1) (st.keys.getD i default)
 one : ∀ k ∈ st.keys, keyOk k
 opens : ∃ o, (lst.hist.map (·.opens)).sum ≤ o ∧ (st.kept + 4 * o ≤ 32 ∨ st.kept = 0)
 place : lst.place = st.place
 segs : lst.segs = st.segs
 many : 20 ≤ st.segs ∧ st.segs ≤ 200
 base : st.base = lst.gone
 some : st.keys ≠ [] → lst.gone < lst.hist.length
 age : lst.hist.length ≤ st.age
 next : lst.next ≤ 1048576 * st.age
 old : st.age ≤ 30000
section
variable {st : JSt} {lst : LSt}
theorem JM.short (h : JM st lst) : ∀ r ∈ lst.hist, r.body.length ≤ 44 := fun r hr => by
 obtain ⟨i, hi, rfl⟩ := List.getElem_of_mem hr
 rw [h.body i hi]
 have hi2 : i < st.keys.length := by rw [← h.len]; exact hi
 refine (markB_len (by have := h.age; have := h.old; omega) ?_).2
 rw [List.getD_eq_getElem?_getD, List.getElem?_eq_getElem hi2]
 exact h.one _ (List.getElem_mem hi2)
theorem JM.ok (h : JM st lst) (ho : lst.Ok) : st.Ok := by
 refine ⟨h.many, h.one, ?_⟩
 obtain ⟨o, h1, h2⟩ := h.opens
 rw [h.base, ← h.len]
 refine ho.kept _ (Nat.sub_le _ _) ?_
 have h3 := jcosts_le (lst.hist.drop (lst.hist.length - st.kept)) fun r hr => h.short r (List.mem_of_mem_drop hr)
 have h4 := jsum_drop lst.hist (lst.hist.length - st.kept)
 rw [List.length_drop] at h3
 have h5 := h.many.1
 rw [h.segs]
 rcases h2 with h2 | h2
 ·omega
 ·rw [h2, Nat.sub_zero, List.drop_length] at h3 ⊢
  exact Nat.zero_le _
theorem JM.has (h : JM st lst) (i : Nat) : lst.has i ↔ st.has i := by
 unfold LSt.has JSt.has
 rw [h.place, h.segs]
theorem JM.older (h : JM st lst) {n : Nat} (h1 : st.age ≤ n) (h2 : n ≤ 30000) : JM ⟨st.place, st.segs, st.keys, st.base, st.kept, n⟩ lst :=
 { h with age := by have := h.age; show _ ≤ n; omega, next := by have := h.next; show _ ≤ 1048576 * n; omega, old := h2 }
theorem JM.start (p i n f x : Nat) (hn : 20 ≤ n ∧ n ≤ 200) (hx : x ≤ 1048576) : JM ⟨i, n, [], 0, 32, 1⟩ ⟨p, i, n, [], 0, f, x⟩ :=
 ⟨rfl, fun i h => absurd h (Nat.not_lt_zero _), fun k hk => by simp at hk, ⟨0, Nat.le_refl _, .inl (Nat.le_refl _)⟩, rfl, rfl, hn, rfl, fun h => absurd rfl h, Nat.zero_le _, by show x ≤ 1048576 * 1; omega, by show 1 ≤ 30000; decide⟩
theorem JM.opened (h : JM st lst) {p f x : Nat} (hx : x ≤ lst.next + 1048576) (hage : st.age + 1 ≤ 30000) : JM ⟨st.place, st.segs, st.keys, st.base, st.kept - 4, st.age + 1⟩ ⟨p, st.place, st.segs, Go.Proofs.YticophaepapjoaaGreatDoor.opened lst.hist, lst.gone, f, x⟩ := by
 obtain ⟨o, h1, h2⟩ := h.opens
 have hl := jopened_len lst.hist
 refine ⟨hl.trans h.len, fun i hi => ?_, h.one, ⟨o + 1, ?_, ?_⟩, rfl, rfl, h.many, h.base, fun hne => ?_, ?_, ?_, hage⟩
 ·have hi' : i < lst.hist.length := by rw [← hl]; exact hi
  exact (jopened_body lst.hist i hi hi').trans (h.body i hi')
 ·exact Nat.le_trans (jopened_sum _) (Nat.succ_le_succ h1)
 ·show st.kept - 4 + 4 * (o + 1) ≤ 32 ∨ st.kept - 4 = 0
  omega
 ·show lst.gone < (Go.Proofs.YticophaepapjoaaGreatDoor.opened lst.hist).length
  rw [hl]; exact h.some hne
 ·show (Go.Proofs.YticophaepapjoaaGreatDoor.opened lst.hist).length ≤ st.age + 1
  rw [hl]; have := h.age; omega
 ·show x ≤ 1048576 * (st.age + 1)
  have := h.next; omega
theorem JM.add (h : JM st lst) {k : ByteArray} (hk : keyOk k) {p pos g f y : Nat} (hy : y ≤ lst.next + 1048576) (hage : st.age + 1 ≤ 30000)
  (hok : (⟨p, lst.place, lst.segs, lst.hist ++ [⟨pos, markB (lst.hist.length + 1) k, 0⟩], g, f, y⟩ : LSt).Ok) :
  JM ⟨st.place, st.segs, st.keys ++ [k], g, st.kept, st.age + 1⟩ ⟨p, lst.place, lst.segs, lst.hist ++ [⟨pos, markB (lst.hist.length + 1) k, 0⟩], g, f, y⟩ := by
 obtain ⟨o, h1, h2⟩ := h.opens
 have hl := h.len
 have hb := markB_len (n := lst.hist.length + 1) (by have := h.age; omega) hk
 refine ⟨by simp [hl], fun i hi => ?_, fun x hx => ?_, ⟨o, by simpa using h1, h2⟩, h.place, h.segs, h.many, rfl, fun _ => ?_, ?_, ?_, hage⟩
 ·simp only [List.length_append, List.length_cons, List.length_nil] at hi
  rcases Nat.lt_or_ge i lst.hist.length with h3 | h3
  ·simp only [List.getElem_append_left h3, List.getD_eq_getElem?_getD, List.getElem?_append_left (show i < st.keys.length by omega)]
   rw [h.body i h3, List.getD_eq_getElem?_getD]
  ·obtain rfl : i = lst.hist.length := by omega
   simp [List.getD_eq_getElem?_getD, hl]
 ·rcases List.mem_append.1 hx with hx | hx
  ·exact h.one x hx
  ·rw [List.mem_singleton.1 hx]; exact hk
 ·have h3 := hok.kept lst.hist.length (by simp) (by
   have h5 := h.many.1
   have h6 := h.segs
   simp [costs, LRec.cost]
   omega)
  simp only [List.length_append, List.length_cons, List.length_nil] at h3 ⊢
  omega
 ·have := h.age; simp; omega
 ·have := h.next; simp only; omega
end
end Go.Proofs.YticophaepapjoaaGreatDoor
namespace Go.Proofs.YticophaepapjoaaGreatDoor
open Go Go.RowKit Go.Joins
theorem jown_lt {w : World} {base n size : Nat} {e : TypeId} {v : Value} {xs : List Value} (h : w.ownsRow base e size v n xs) : ∀ b, v.ownBlock = some b → b < w.heap.size := by
 intro b hb
 rcases h.2 with ⟨rfl, _⟩ | ⟨g, cap, cur, rfl, _, hg, _⟩
 ·cases hb
 ·injection hb with hb; subst hb; exact (Array.getElem?_eq_some_iff.1 hg).1
def posC (l : List Nat) : List Value := l.map fun x => .int .i64 ((x : Nat) : Int)
def jfoot (q : Nat) (Fl : Foot) (v : Value) : Foot := ⟨fun b => b = q ∨ Fl.M b ∨ v.ownBlock = some b, Fl.I⟩
theorem jfoot_all {q : Nat} {Fl : Foot} {v : Value} {b : Nat} : (jfoot q Fl v).all b ↔ b = q ∨ Fl.all b ∨ v.ownBlock = some b := by
 unfold jfoot Foot.all
 constructor
 ·rintro ((h | h | h) | h)
  ·exact .inl h
  ·exact .inr (.inl (.inl h))
  ·exact .inr (.inr h)
  ·exact .inr (.inl (.inr h))
 ·rintro (h | (h | h) | h)
  ·exact .inl (.inl h)
  ·exact .inl (.inr (.inl h))
  ·exact .inr h
  ·exact .inl (.inr (.inr h))
def JBlk (w : World) (q lq : Nat) (bs : Int) (v : Value) : Prop := w.heap[q]? = some (.cells #[.pointer (some ⟨lq, 0, none⟩), .int .i64 bs, v] 108 (0, 0))
section
variable {w w' : World} {q lq : Nat} {bs : Int} {v : Value} {G : Nat → Prop}
theorem JBlk.keep (h : JBlk w q lq bs v) (hk : Keeps G w w') (hq : G q) : JBlk w' q lq bs v := (hk.block q hq (Array.getElem?_eq_some_iff.1 h).1).trans h
theorem JBlk.lt (h : JBlk w q lq bs v) : q < w.heap.size := (Array.getElem?_eq_some_iff.1 h).1
theorem JBlk.c0 (h : JBlk w q lq bs v) : w.cell? ⟨q, 0, none⟩ = some (.pointer (some ⟨lq, 0, none⟩)) := (cell_of_block h 0).trans rfl
theorem JBlk.c1 (h : JBlk w q lq bs v) : w.cell? ⟨q, 1, none⟩ = some (.int .i64 bs) := (cell_of_block h 1).trans rfl
theorem JBlk.c2 (h : JBlk w q lq bs v) : w.cell? ⟨q, 2, none⟩ = some v := (cell_of_block h 2).trans rfl
theorem JBlk.f (h : JBlk w q lq bs v) (i : Nat) : w.frozen? ⟨q, i, none⟩ = false := unfrozen_of_block h i
theorem JBlk.set1 (h : JBlk w q lq bs v) (x : Int) : JBlk (w.setCell ⟨q, 1, none⟩ (.int .i64 x)) q lq x v := (block_setCell h _).trans rfl
theorem JBlk.set2 (h : JBlk w q lq bs v) (v' : Value) : JBlk (w.setCell ⟨q, 2, none⟩ v') q lq bs v' := (block_setCell h _).trans rfl
end
structure JAt (S : Slog2) (w : World) (p q lq : Nat) (Fl : Foot) (bs : Int) (v : Value) (xs : List Nat) (lst : LSt) (s : SDev) : Prop where
 blk : JBlk w q lq bs v
 l : S.rep w lq Fl lst s
 on : lst.dev = p
 row : w.ownsRow 0 2 1 v xs.length (posC xs)
 ql : ¬ Fl.all q
 qv : v.ownBlock ≠ some q
 lv : ∀ b, v.ownBlock = some b → ¬ Fl.all b
section
variable {S : Slog2} {w w' : World} {p q lq : Nat} {Fl : Foot} {bs : Int} {v : Value} {xs : List Nat} {lst : LSt} {s : SDev}
theorem JAt.keep (h : JAt S w p q lq Fl bs v xs lst s) (hk : Keeps (jfoot q Fl v).all w w') : JAt S w' p q lq Fl bs v xs lst s :=
 ⟨h.blk.keep hk (jfoot_all.2 (.inl rfl)), S.keep h.l (hk.mono fun _b _ hb => jfoot_all.2 (.inr (.inl hb))), h.on, hk.own h.row fun _b hb => jfoot_all.2 (.inr (.inr hb)), h.ql, h.qv, h.lv⟩
theorem JAt.kp (h : JAt S w p q lq Fl bs v xs lst s) (hk : Kp w w') : JAt S w' p q lq Fl bs v xs lst s := h.keep (hk.mono fun _ _ _ => trivial)
theorem JAt.lt (h : JAt S w p q lq Fl bs v xs lst s) : ∀ b, (jfoot q Fl v).all b → b < w.heap.size := fun b hb => by
 rcases jfoot_all.1 hb with rfl | hb | hb
 ·exact h.blk.lt
 ·exact S.lt h.l b hb
 ·exact jown_lt h.row b hb
theorem JAt.form (h : JAt S w p q lq Fl bs v xs lst s) : ∃ A c, v = .slice A xs.length c ∧ xs.length ≤ c ∧ c ≤ maxLen := by
 obtain ⟨A, c, rfl, -, -⟩ := own_slice h.row
 have := own_cap h.row
 exact ⟨A, c, rfl, this.1, this.2.1⟩
end
def jkept (lst : LSt) : List Nat := (lst.hist.drop lst.gone).map (·.pos)
theorem jkept_len (lst : LSt) : (jkept lst).length = lst.hist.length - lst.gone := by simp [jkept]
def jrep (S : Slog2) (w : World) (p q : Nat) (Fs : Foot) (st : JSt) (s : SDev) : Prop :=
 ∃ (lq : Nat) (Fl : Foot) (v : Value) (lst : LSt), Fs = jfoot q Fl v ∧ JAt S w p q lq Fl (lst.gone : Int) v (jkept lst) lst s ∧ JM st lst
def jdisk (S : Slog2) (st : JSt) (rows : List (List UInt8)) : Prop := ∃ lst : LSt, S.disk lst rows ∧ JM st lst
section
variable {S : Slog2} {w w' : World} {p q : Nat} {Fs : Foot} {st : JSt} {s s' : SDev}
theorem jrep_wf (h : jrep S w p q Fs st s) : st.Ok := by
 obtain ⟨lq, Fl, v, lst, rfl, hc, hm⟩ := h
 exact hm.ok (S.wf hc.l)
theorem jrep_lt (h : jrep S w p q Fs st s) : ∀ b, Fs.all b → b < w.heap.size := by
 obtain ⟨lq, Fl, v, lst, rfl, hc, hm⟩ := h
 exact hc.lt
theorem jrep_keep (h : jrep S w p q Fs st s) (hk : Keeps Fs.all w w') : jrep S w' p q Fs st s := by
 obtain ⟨lq, Fl, v, lst, rfl, hc, hm⟩ := h
 exact ⟨lq, Fl, v, lst, rfl, hc.keep hk, hm⟩
theorem jrep_other (h : jrep S w p q Fs st s) (hl : s'.now.length = s.now.length) (ho : ∀ i, st.has i → s'.now.getD i [] = s.now.getD i []) : jrep S w p q Fs st s' := by
 obtain ⟨lq, Fl, v, lst, rfl, hc, hm⟩ := h
 exact ⟨lq, Fl, v, lst, rfl, { hc with l := S.other hc.l hl fun i hi => ho i ((hm.has i).1 hi) }, hm⟩
theorem jdisk_keep {rows rows' : List (List UInt8)} (h : jdisk S st rows) (hl : rows'.length = rows.length) (ho : ∀ i, st.has i → rows'.getD i [] = rows.getD i []) : jdisk S st rows' := by
 obtain ⟨lst, hd, hm⟩ := h
 exact ⟨lst, S.diskKeep hd hl fun i hi => ho i ((hm.has i).1 hi), hm⟩
theorem JGo.trans {w w1 w2 : World} {F F1 F2 Fs Fs1 Fs2 : Foot} {s s1 s2 : SDev} {st st1 : JSt} {n m : Nat} (h : JGo w w1 F F1 Fs Fs1 s s1 st n) (k : JGo w1 w2 F1 F2 Fs1 Fs2 s1 s2 st1 m) (hst : ∀ i, st1.has i ↔ st.has i) : JGo w w2 F F2 Fs Fs2 s s2 st (n + m) := by
 have hsz := h.k.size
 have all1 : ∀ b, F1.all b → F.all b ∨ w.heap.size ≤ b := fun b hb => by
  rcases hb with hb | hb
  ·rcases h.f1 b hb with h1 | h1
   ·exact .inl (.inl h1)
   ·exact .inr h1
  ·exact h.f2 b hb
 have all2 : ∀ b, Fs1.all b → Fs.all b ∨ w.heap.size ≤ b := fun b hb => by
  rcases hb with hb | hb
  ·rcases h.f3 b hb with h1 | h1
   ·exact .inl (.inl h1)
   ·exact .inr h1
  ·exact h.f4 b hb
 refine ⟨k.ap, ⟨k.k.os.trans h.k.os, k.k.tape.trans h.k.tape, k.k.output.trans h.k.output, Nat.le_trans hsz k.k.size, fun b hb hlt => ?_⟩, fun b hb => ?_, fun b hb => ?_, fun b hb => ?_, fun b hb => ?_, k.len.trans h.len, fun i hi => (k.out i fun hh => hi ((hst i).1 hh)).trans (h.out i hi), ?_⟩
 ·refine (k.k.block b ⟨fun hm => ?_, fun hm => ?_⟩ (Nat.lt_of_lt_of_le hlt hsz)).trans (h.k.block b hb hlt)
  ·rcases h.f1 b hm with h1 | h1
   ·exact hb.1 h1
   ·omega
  ·rcases h.f3 b hm with h1 | h1
   ·exact hb.2 h1
   ·omega
 ·rcases k.f1 b hb with h1 | h1
  ·exact h.f1 b h1
  ·exact .inr (Nat.le_trans hsz h1)
 ·rcases k.f2 b hb with h1 | h1
  ·exact all1 b h1
  ·exact .inr (Nat.le_trans hsz h1)
 ·rcases k.f3 b hb with h1 | h1
  ·exact h.f3 b h1
  ·exact .inr (Nat.le_trans hsz h1)
 ·rcases k.f4 b hb with h1 | h1
  ·exact all2 b h1
  ·exact .inr (Nat.le_trans hsz h1)
 ·have := h.calls; have := k.calls; omega
end
structure Jb (S : Slog2) (W w : World) (p q : Nat) (F Fs : Foot) (s : SDev) (st : JSt) : Prop where
 d : DAt w p F s
 r : jrep S w p q Fs st s
 ap : Apart F Fs
 kp : Kp W w
 gf : ∀ b, F.all b → W.heap.size ≤ b
 gs : ∀ b, Fs.all b → W.heap.size ≤ b
 room : st.place + 8 * st.segs ≤ s.now.length
section
variable {S : Slog2} {W w w' : World} {p q : Nat} {F F' Fs Fs' : Foot} {st st' : JSt} {s s' : SDev} {n : Nat}
theorem Jb.keep (h : Jb S W w p q F Fs s st) (hk : Kp w w') : Jb S W w' p q F Fs s st :=
 ⟨h.d.keep (hk.mono fun _ _ _ => trivial), jrep_keep h.r (hk.mono fun _ _ _ => trivial), h.ap, h.kp.trans hk, h.gf, h.gs, h.room⟩
theorem Jb.moved (h : Jb S W w p q F Fs s st) (hd : DAt w' p F' s') (hr : jrep S w' p q Fs' st' s') (hpl : st'.place = st.place) (hsg : st'.segs = st.segs) (hgo : JGo w w' F F' Fs Fs' s s' st n) : Jb S W w' p q F' Fs' s' st' := by
 have hsz := h.kp.size
 refine ⟨hd, hr, hgo.ap, ?_, fun b hb => ?_, fun b hb => ?_, by rw [hpl, hsg, hgo.len]; exact h.room⟩
 ·exact ⟨hgo.k.os.trans h.kp.os, hgo.k.tape.trans h.kp.tape, hgo.k.output.trans h.kp.output, Nat.le_trans hsz hgo.k.size, fun b _ hb =>
   (hgo.k.block b ⟨fun hm => by have := h.gf b (.inl hm); omega, fun hm => by have := h.gs b (.inl hm); omega⟩ (by omega)).trans (h.kp.block b trivial hb)⟩
 ·rcases hb with hb | hb
  ·rcases hgo.f1 b hb with h1 | h1
   ·exact h.gf b (.inl h1)
   ·omega
  ·rcases hgo.f2 b hb with h1 | h1
   ·exact h.gf b h1
   ·omega
 ·rcases hb with hb | hb
  ·rcases hgo.f3 b hb with h1 | h1
   ·exact h.gs b (.inl h1)
   ·omega
  ·rcases hgo.f4 b hb with h1 | h1
   ·exact h.gs b h1
   ·omega
theorem JGo.still (h : Jb S W w p q F Fs s st) (hk : Kp w w') : JGo w w' F F Fs Fs s s st 0 :=
 ⟨h.ap, hk.mono fun _ _ _ => trivial, fun _ hb => .inl hb, fun _ hb => .inl (.inr hb), fun _ hb => .inl hb, fun _ hb => .inl (.inr hb), rfl, fun _ _ => rfl, Nat.le_add_right _ _⟩
end
theorem jdown (w : World) (q lq : Nat) (c0 : w.cell? ⟨q, 0, none⟩ = some (.pointer (some ⟨lq, 0, none⟩))) :
  Calls Tryz.prog 56 #[.pointer (some ⟨q, 0, none⟩)] w fun e w' => e = .returned (.bool false) ∧ w = w' := by
 go_enter Tryz.func56, Tryz.ntmps56
 go_wp2_with fail
 go_ret
 exact ⟨rfl, rfl⟩
theorem jseq (w : World) (q lq b n : Nat) (A : Option Addr) (c : Nat) (h : JBlk w q lq (b : Int) (.slice A n c)) (h1 : b + n ≤ 1000000) (m : Int) (hm : m = (b : Int) + (n : Int)) :
  Calls Tryz.prog 24 #[.pointer (some ⟨q, 0, none⟩)] w fun e w' => e = .returned (.int .i64 m) ∧ ∃ z, w' = w.drewN z := by
 subst hm
 have HDN := Hd (jdown w q lq h.c0)
 have c1 := h.c1
 have c2 := h.c2
 clear h
 go_enter Tryz.func24, Tryz.ntmps24
 go_wp2_with fail
 refine (show Calls _ _ _ _ _ from HDN.out).mono ?_
 rintro e w1 ⟨rfl, rfl⟩
 go_wp2_with fail
 go_quiet (fail)
 go_wp2_with fail
 go_ret
 exact ⟨rfl, _, rfl⟩
theorem jbase (w : World) (q lq b : Nat) (v : Value) (h : JBlk w q lq (b : Int) v) :
  Calls Tryz.prog 31 #[.pointer (some ⟨q, 0, none⟩)] w fun e w' => e = .returned (.int .i64 (b : Int)) ∧ Kp w w' := by
 have HDN := Hd (jdown w q lq h.c0)
 have c1 := h.c1
 clear h
 go_enter Tryz.func31, Tryz.ntmps31
 go_wp2_with fail
 refine (show Calls _ _ _ _ _ from HDN.out).mono ?_
 rintro e w1 ⟨rfl, rfl⟩
 go_wp2_with fail
 go_ret
 exact ⟨rfl, Keeps.refl _ _⟩
end Go.Proofs.YticophaepapjoaaGreatDoor
namespace Go.Proofs.YticophaepapjoaaGreatDoor
open Go Go.ChangeShapes Go.WideShapes Go.ChangeAt Go.RowKit Go.Deep
section
variable {H : Type} {enc : TypeId × Value → H} {P : Program} {W W' : World}
theorem trodAll_len {base : Nat} {sp : Nat → Bool} {held : Bool} : ∀ {ts : List TypeId} {vs : List Value} {ds : List (DataW H)} {ps : List MemPlace}, DataW.TrodAll enc P W base sp held ts vs ds ps → ds.length = ts.length
 | [], [], [], _, _ => rfl
 | _ :: _, _ :: _, _ :: _, _, ⟨_, _, _, h, _⟩ => by simp [trodAll_len h]
theorem trodAll_below (hl : laidOutB P = true) (hb : Below W.heap.size W W') : ∀ {ts : List TypeId} {vs : List Value} {ds : List (DataW H)} {ps : List MemPlace}, (ts.all fun t => P.readableRec t && decide (t < P.types.size)) = true →
  DataW.TrodAll enc P W 0 (fun _ => true) true ts vs ds ps → DataW.TrodAll enc P W' 0 (fun b => decide (b < W.heap.size)) true ts vs ds ps
 | [], [], [], _, _, h => h
 | t :: ts, v :: vs, d :: ds, _, ht, ⟨p, q, h1, h2, e⟩ => by
  simp only [List.all_cons, Bool.and_eq_true, decide_eq_true_eq] at ht
  have hlt : ∀ x ∈ p, x.block < W.heap.size := by obtain ⟨m, hm⟩ := h1; exact DataW.trod_lt m _ _ _ hm
  exact ⟨p, q, Below.trod hl ht.1.1 ht.1.2 h1 hb hlt, trodAll_below hl hb ht.2 h2, e⟩
def LawWalk (H : Type) (enc : TypeId × Value → H) (P : Program) (f : FuncId) (fn : Func) (X : World → Prop) : Prop :=
 ∀ (W : World) (base : Nat) (args : Array Value) (ds : List (DataW H)) (p : List MemPlace), (∀ (j : Nat) t v, fn.params[j]? = some t → args[j]? = some v → Value.okWide P W .any base t v) →
  DataW.TrodAll enc P W 0 (fun _ => true) true fn.params.toList args.toList ds p → X W → Calls P f args W fun e W' => e = .returned (.bool true) ∧ Below W.heap.size W W'
theorem law_post {fn : Func} {s : ChangeSpec} {tb : TypeId} (hl : laidOutB P = true) (htys : (fn.params.toList.all fun t => P.readableRec t && decide (t < P.types.size)) = true)
  (hres : fn.resultTypes = #[tb]) (hb : P.underlying tb = some .bool) (hvars : s.vars = []) (hs : ∀ ds : List (DataW H), ds.length = fn.params.size → s.fn H ds = { results := [.lit (.bool true)], args := ds })
  {args : Array Value} {ds gs : List (DataW H)} {before : List MemPlace} (hW : DataW.Whole enc P fn.params.toList s.vars false W args.toList ds gs before) (bel : Below W.heap.size W W') :
  s.post enc P fn false true false false W args (.bool true) W' := by
 have hW' := hW
 obtain ⟨p, q, hA, hV, rfl, hfz, hnd⟩ := hW
 rw [hvars] at hV
 obtain ⟨rfl, rfl⟩ := trodVars_none hV
 have e1 := hs ds (by rw [trodAll_len hA]; simp)
 refine ⟨ds, [], p ++ [], [], p, [], hW', ?_, ?_, ?_, bel.frame _, fun h => by cases h⟩
 ·rw [List.append_nil, e1, hres]; exact trodAll_mk1 (shut_bool hb true)
 ·rw [List.append_nil, e1]; exact trodAll_below hl bel htys hA
 ·rw [List.append_nil, e1, hvars]; rfl
theorem law_laid {C : Checked} {os : Os} {f : FuncId} {fn : Func} {s : ChangeSpec} {tb : TypeId} {X : World → Prop} (hX : ∀ w w' : World, w.heap = w'.heap → X w → X w')
  (own : ownKnob C.prog.godebug = none) (started : os.Started) (noInit : C.prog.inits.idxOf? f = none) (hfn : C.prog.funcs[f]? = some fn)
  (witness : ∃ (w : World) (tape : Tape) (i : Input), w.os = os ∧ (w.forCall tape i).Shaped C.prog ∧ i.vars = [] ∧ Input.okWide C.prog (w.forCall tape i) .any w.heap.size f i ∧
   ((s.pre enc C.prog fn [] false (w.forCall tape i).memory i.args ∧ X (w.forCall tape i).memory) ∧ sizedMet enc C.prog fn (OpenSpec.ofChange s) false (w.forCall tape i).memory i.args) ∧ ({} : Assume).holds C.prog (lone (Frame.enter C.prog f i.args .normal) [] (w.forCall tape i)))
  (hl : laidOutB C.prog = true) (htys : (fn.params.toList.all fun t => C.prog.readableRec t && decide (t < C.prog.types.size)) = true)
  (hres : fn.resultTypes = #[tb]) (hb : C.prog.underlying tb = some .bool) (hvars : s.vars = []) (hs : ∀ ds : List (DataW H), ds.length = fn.params.size → s.fn H ds = { results := [.lit (.bool true)], args := ds })
  (walk : LawWalk H enc C.prog f fn X) :
  ReturnsInHanded {} C os f .any (fun w args => (s.pre enc C.prog fn [] false w args ∧ X w) ∧ sizedMet enc C.prog fn (OpenSpec.ofChange s) false w args) (s.post enc C.prog fn false true false false) := by
 refine returnsInHanded_of_change_and (X := fun w _ => X w) (fun w w' _ h hx => hX w w' h hx) own started noInit hfn witness ?_
 intro W base args ds gs before hval hW _ _ hL _
 have hA := hW
 obtain ⟨p, q, hA, _⟩ := hA
 refine (walk W base args ds p hval hA hL).mono fun e W' ⟨he, bel⟩ => ?_
 subst he
 exact ⟨_, rfl, law_post hl htys hres hb hvars hs hW bel⟩
end
section
variable {H : Type} {enc : TypeId × Value → H} {P : Program} {W : World}
theorem open_texts {t e : TypeId} {v : Value} {d : DataW H} {ps : List MemPlace} {base : Nat} (ht : P.underlying t = some (.slice e)) (he : P.underlying e = some .string) (ce : P.cellsOf e = 1)
  (hok : Value.okWide P W .any base t v) (h : DataW.Trod enc P W 0 (fun _ => true) true t v d ps) :
  ∃ (A : Option Addr) (cap : Nat) (l : List ByteArray), v = .slice A l.length cap ∧ l.length ≤ cap ∧ cap ≤ maxLen ∧ Row W A (fun b => b < W.heap.size) (l.map Value.string) ∧ ∀ s ∈ l, s.size ≤ maxLen := by
 obtain ⟨a, len, cap, rfl⟩ := okWide_slice ht hok
 obtain ⟨fuel, hf⟩ := h
 rcases open_strings ht he ce hf with ⟨hcs, _⟩ | ⟨x, n, c, zs, hcs, _, hl, hm, hz, _, hcell, hwz⟩
 ·simp [Value.cells] at hcs
  obtain ⟨rfl, rfl, rfl⟩ := hcs
  exact ⟨none, 0, [], rfl, Nat.le_refl _, Nat.zero_le _, Row.nil _ _ _, by simp⟩
 ·simp [Value.cells] at hcs
  obtain ⟨rfl, rfl, rfl⟩ := hcs
  simp only [if_true] at hz
  have hln : (zs.take len).length = len := by simp; omega
  refine ⟨some x, cap, zs.take len, by rw [hln], by rw [hln]; exact hl, hm, (fun hne => ?_), fun n hn => hwz n (List.mem_of_mem_take hn)⟩
  have hpos : 0 < len := by
   rcases Nat.eq_zero_or_pos len with h0 | h0
   ·subst h0; simp at hne
   ·exact h0
  obtain ⟨b, off, spot⟩ := x
  have hspot : spot = none := by simpa [Addr.add] using World.cell?_spot (hcell 0 (by omega))
  subst hspot
  have h0 := hcell 0 (by omega)
  rw [add_plain] at h0
  refine ⟨b, off, rfl, World.block_lt_of_cell? W _ h0, fun i v hv => ?_⟩
  simp only [List.getElem?_map, Option.map_eq_some_iff] at hv
  obtain ⟨z, hzi, rfl⟩ := hv
  have hi : i < len := by
   rcases Nat.lt_or_ge i len with h1 | h1
   ·exact h1
   ·rw [List.getElem?_take, if_neg (by omega)] at hzi; cases hzi
  rw [List.getElem?_take, if_pos hi] at hzi
  have hc := hcell i (by omega)
  rw [add_plain] at hc
  have e0 : zs.getD i ByteArray.empty = z := by rw [List.getD_eq_getElem?_getD, hzi]; rfl
  rw [e0] at hc
  exact hc
end
end Go.Proofs.YticophaepapjoaaGreatDoor
