/-
  SlgMore, SlgOpened, SlgRead, SlgMade, SlgThe: texts of mine, joined.
-/
import Derived.Test.YticophaepapjoaaGreatDoorAllA20
import Derived.Test.YticophaepapjoaaGreatDoorAllA15
namespace Go.Proofs.YticophaepapjoaaGreatDoor
open Go Go.RowKit
theorem Chain.last_ {n b0 : Nat} {ks : List Seg} {sg sg' : Seg} (h : Chain n b0 (ks ++ [sg])) (h1 : sg'.slot = sg.slot) (h2 : sg'.first = sg.first) (h3 : sg'.Ok) (h4 : sg'.recs ≠ []) (h5 : costs sg.recs ≤ costs sg'.recs) : Chain n b0 (ks ++ [sg']) := by
 have hl : (ks ++ [sg']).length = (ks ++ [sg]).length := by simp
 refine ⟨h.base, by rw [hl]; exact h.len, fun i hi => ?_, fun s hs => ?_, ?_, fun s hs => ?_, fun i hi => ?_⟩
 ·have hh := h.slot i (by rw [← hl]; exact hi)
  by_cases hk : i < ks.length
  ·rw [List.getElem_append_left hk] at hh ⊢; exact hh
  ·have : i = ks.length := by simp at hi; omega
   subst this
   rw [List.getElem_concat_length rfl] at hh ⊢
   rw [h1]; exact hh
 ·rcases List.mem_append.1 hs with hs | hs
  ·exact h.ok s (List.mem_append_left _ hs)
  ·rw [List.mem_singleton.1 hs]; exact h3
 ·have := List.pairwise_append.1 h.rise
  refine List.pairwise_append.2 ⟨this.1, by simp, fun a ha b hb => ?_⟩
  rw [List.mem_singleton.1 hb, h2]
  exact this.2.2 a ha sg (by simp)
 ·rcases List.mem_append.1 hs with hs | hs
  ·exact h.full s (List.mem_append_left _ hs)
  ·rw [List.mem_singleton.1 hs]; exact h4
 ·have hh := h.cost i (by rw [← hl]; exact hi)
  have hk : i < ks.length := by simp at hi; omega
  rw [List.getElem_append_left hk] at hh ⊢
  by_cases hk2 : i + 1 < ks.length
  ·rw [List.getElem_append_left hk2] at hh ⊢; exact hh
  ·have : i + 1 = ks.length := by omega
   have e1 : (ks ++ [sg])[i + 1]'(by simp; omega) = sg := by simp [this]
   have e2 : (ks ++ [sg'])[i + 1]'hi = sg' := by simp [this]
   rw [e1] at hh
   rw [e2]; omega
theorem Chain.other_slot {n b0 : Nat} {ks : List Seg} {sg : Seg} (h : Chain n b0 (ks ++ [sg])) : ∀ s ∈ ks, s.slot ≠ sg.slot := fun s hs e => by
 obtain ⟨j, hj, rfl⟩ := List.getElem_of_mem hs
 have := h.slot_inj (i := j) (j := ks.length) (by simp; omega) (by simp) (by rw [List.getElem_append_left hj, List.getElem_concat_length rfl]; exact e)
 omega
theorem Seg.Ok.more {sg : Seg} (h : sg.Ok) (r : LRec) (hr1 : 1 ≤ r.body.length) (hr2 : r.body.length ≤ 300) (hp : r.pos = sg.end_) (hlen : sg.text.length + (putT r.body).length ≤ 424) : (⟨sg.slot, sg.first, sg.recs ++ [r]⟩ : Seg).Ok := by
 refine ⟨?_, fun x hx => ?_, fun i hi => ?_, h.first⟩
 ·show (strm (sg.recs ++ [r])).length ≤ 424
  rw [strm_snoc, List.length_append]; exact hlen
 ·rcases List.mem_append.1 hx with hx | hx
  ·exact h.one x hx
  ·rw [List.mem_singleton.1 hx]; exact ⟨hr1, hr2⟩
 ·show ((sg.recs ++ [r])[i]).pos = sg.first + i
  by_cases hk : i < sg.recs.length
  ·rw [List.getElem_append_left hk]; exact h.pos i hk
  ·have : i = sg.recs.length := by simp at hi; omega
   subst this
   rw [List.getElem_concat_length rfl, hp]; rfl
theorem drop_snoc {α : Type} (l : List α) (r : α) (g : Nat) (h : g ≤ l.length) : (l ++ [r]).drop g = l.drop g ++ [r] := List.drop_append_of_le_length h
theorem LogInv.more {st : LSt} {ks : List Seg} {sg : Seg} {b0 : Nat} {s : SDev} (h : LogInv st (ks ++ [sg]) b0 s.now) (hnx : st.next = sg.end_) (l : List UInt8) (h1 : 1 ≤ l.length) (h300 : l.length ≤ 300) (hlen : sg.text.length + (putT l).length ≤ 424) (hr : ∀ r ∈ s.now, r.length = 64) (hin : st.place + 8 * st.segs ≤ s.now.length)
  (hb : st.next + 1 ≤ 274877906943) (tl : List UInt8) (htl : tl = sg.text.drop (sg.text.length / 53 * 53)) (f : Nat) :
  LogInv ⟨st.dev, st.place, st.segs, st.hist ++ [⟨st.next, l, 0⟩], st.gone, f, st.next + 1⟩ (ks ++ [⟨sg.slot, sg.first, sg.recs ++ [⟨st.next, l, 0⟩]⟩]) b0 (s.puts (st.place + sg.slot * 8 + sg.text.length / 53) (sg.first * 8 + sg.text.length / 53) (tl ++ putT l) (chunks (tl ++ putT l).length)).now := by
 have hsg := h.ch.ok sg (by simp)
 have hslot := h.ch.slot_lt sg (by simp)
 have hend := h.ends sg (by simp)
 have hnxs := h.nxs
 have hf : sg.first ≤ 274877906943 := by unfold Seg.end_ at hend; omega
 have hpos := putT_pos l
 have htll : tl.length = sg.text.length % 53 := by rw [htl, List.length_drop]; omega
 have hk8 : sg.text.length / 53 + chunks (tl ++ putT l).length ≤ 8 := by
  rw [List.length_append, htll]; unfold chunks; omega
 have hok := hsg.more ⟨st.next, l, 0⟩ h1 h300 hnx hlen
 have hsec := fun a b (hb : b < 8) => puts_sec s st.place sg.slot (sg.text.length / 53) sg.first (tl ++ putT l) (chunks (tl ++ putT l).length) hr hk8 hsg.first hf (by omega) a b hb
 have hsame : ∀ a b, b < 8 → a ≠ sg.slot → secAt (s.puts (st.place + sg.slot * 8 + sg.text.length / 53) (sg.first * 8 + sg.text.length / 53) (tl ++ putT l) (chunks (tl ++ putT l).length)).now st.place a b = secAt s.now st.place a b := fun a b hb8 hne => by
  rw [hsec a b hb8, if_neg (fun hh => hne hh.1)]
 have hsl := h.ch.other_slot
 refine ⟨h.ch.last_ rfl rfl hok (by simp) (by rw [costs_append]; omega), ⟨fun x hx => ?_, fun i hi hno k hk => ?_⟩, ?_, fun hl => h.keep (by simpa using hl), fun x hx => ?_, hb, h.segs, fun r hr => ?_, ?_, by simp; have := h.gone; omega, ⟨by show 1 ≤ st.next + 1; omega, fun r hr => ?_⟩⟩
 ·rcases List.mem_append.1 hx with hx | hx
  ·have hx0 := h.on.on x (List.mem_append_left _ hx)
   have hlen8 := nsec_le _ (h.ch.ok x (List.mem_append_left _ hx)).len
   exact ⟨fun k hk => by show secAt _ st.place x.slot k = _; rw [hsame _ _ (by omega) (hsl x hx)]; exact hx0.has k hk, fun k h1 h2 m y e => hx0.rest k h1 h2 m y (by rw [← hsame _ _ h2 (hsl x hx)]; exact e)⟩
  ·rw [List.mem_singleton.1 hx]
   exact (h.on.on sg (by simp)).more hsg ⟨st.next, l, 0⟩ hlen hr hf (by omega) tl htl
 ·have hne : i ≠ sg.slot := fun e => hno ⟨sg.slot, sg.first, sg.recs ++ [⟨st.next, l, 0⟩]⟩ (by simp) e.symm
  show secAt _ st.place i k = none
  rw [hsame i k hk hne]
  exact h.on.none i hi (fun x hx e => by
   rcases List.mem_append.1 hx with hx | hx
   ·exact hno x (List.mem_append_left _ hx) e
   ·rw [List.mem_singleton.1 hx] at e; exact hne e.symm) k hk
 ·show (st.hist ++ [_]).drop st.gone = _
  rw [drop_snoc _ _ _ h.gone, h.hist]
  simp
 ·show x.end_ ≤ st.next + 1
  rcases List.mem_append.1 hx with hx | hx
  ·have := h.ends x (List.mem_append_left _ hx); omega
  ·rw [List.mem_singleton.1 hx]
   unfold Seg.end_ at hnx ⊢
   simp only [List.length_append, List.length_singleton]
   omega
 ·rcases List.mem_append.1 hr with hr | hr
  ·exact h.one r hr
  ·rw [List.mem_singleton.1 hr]; exact ⟨h.next.1, h1, h300⟩
 ·refine List.pairwise_append.2 ⟨h.rise, by simp, fun a ha b hb => ?_⟩
  rw [List.mem_singleton.1 hb]
  exact h.next.2 a ha
 ·show r.pos < st.next + 1
  rcases List.mem_append.1 hr with hr | hr
  ·have := h.next.2 r hr; omega
  ·rw [List.mem_singleton.1 hr]; show st.next < st.next + 1; omega
theorem goes_mem {full : Bool} {ks : List Seg} {s : Seg} (h : s ∈ goes full ks) : s ∈ ks := by
 cases full
 ·exact h
 ·exact List.mem_of_mem_tail h
def gonesN (full : Bool) : List Seg → Nat
 | [] => 0
 | s :: _ => if full then s.recs.length else 0
theorem goes_drop (full : Bool) (ks : List Seg) : (ks.flatMap Seg.recs).drop (gonesN full ks) = (goes full ks).flatMap Seg.recs := by
 cases ks with
 | nil => cases full <;> rfl
 | cons s ks =>
  cases full
  ·simp [gonesN, goes]
  ·simp [gonesN, goes]
def baseN (full : Bool) (b0 n : Nat) : Nat := if full then (b0 + 1) % n else b0
theorem Chain.fresh {n b0 : Nat} {ks : List Seg} (h : Chain n b0 ks) (hn : 1 ≤ n) (sg : Seg) (hs : sg.slot = (b0 + ks.length) % n) (hok : sg.Ok) (hfu : sg.recs ≠ []) (hr : ∀ s ∈ ks, s.end_ ≤ sg.first) (hc : ∀ ks0 l, ks = ks0 ++ [l] → 461 ≤ costs l.recs + costs sg.recs) (h3 : 3 ≤ n) :
  Chain n (baseN (decide (ks.length = n)) b0 n) (goes (decide (ks.length = n)) ks ++ [sg]) := by
 have hb := h.base
 have hlen := h.len
 have hg : (goes (decide (ks.length = n)) ks).length < n ∧ ∀ j (hj : j < (goes (decide (ks.length = n)) ks).length), ∃ (h' : j + (ks.length - (goes (decide (ks.length = n)) ks).length) < ks.length), (goes (decide (ks.length = n)) ks)[j] = ks[j + (ks.length - (goes (decide (ks.length = n)) ks).length)] := by
  by_cases hl : ks.length = n
  ·rw [decide_eq_true hl]
   show ks.tail.length < n ∧ ∀ j (hj : j < ks.tail.length), ∃ (h' : j + (ks.length - ks.tail.length) < ks.length), ks.tail[j] = ks[j + (ks.length - ks.tail.length)]
   have ht : ks.tail.length = ks.length - 1 := List.length_tail
   refine ⟨by omega, fun j hj => ⟨by omega, ?_⟩⟩
   have e : ks.length - ks.tail.length = 1 := by omega
   simp only [e, List.getElem_tail]
  ·rw [decide_eq_false hl]
   exact ⟨by show ks.length < n; omega, fun j hj => ⟨by show j + (ks.length - ks.length) < _; have hj : j < ks.length := hj; omega, by
    show ks[j] = ks[j + (ks.length - ks.length)]'_
    simp
    rfl⟩⟩
 have hlg : ks.length - (goes (decide (ks.length = n)) ks).length = if ks.length = n then 1 else 0 := by
  by_cases hl : ks.length = n
  ·rw [decide_eq_true hl, if_pos hl]
   show ks.length - ks.tail.length = 1
   rw [List.length_tail]; omega
  ·rw [decide_eq_false hl, if_neg hl]; show ks.length - ks.length = 0; omega
 have hslot : ∀ j, (baseN (decide (ks.length = n)) b0 n + j) % n = (b0 + (j + (ks.length - (goes (decide (ks.length = n)) ks).length))) % n := fun j => by
  rw [hlg]
  unfold baseN
  by_cases hl : ks.length = n
  ·rw [if_pos hl, if_pos (decide_eq_true hl), Nat.mod_add_mod]; congr 1; omega
  ·rw [if_neg hl, if_neg (by simp [hl])]; congr 1
 have hgl : (goes (decide (ks.length = n)) ks).length ≤ ks.length := by
  by_cases hl : ks.length = n
  ·rw [decide_eq_true hl]; show ks.tail.length ≤ _; rw [List.length_tail]; omega
  ·rw [decide_eq_false hl]; exact Nat.le_refl _
 refine ⟨?_, by rw [List.length_append, List.length_singleton]; exact hg.1, fun i hi => ?_, fun s hs => ?_, ?_, fun s hs => ?_, fun i hi => ?_⟩
 ·unfold baseN; split
  ·exact Nat.mod_lt _ (by omega)
  ·exact hb
 ·rw [hslot]
  by_cases hk : i < (goes (decide (ks.length = n)) ks).length
  ·rw [List.getElem_append_left hk]
   obtain ⟨h', e⟩ := hg.2 i hk
   rw [e]; exact h.slot _ h'
  ·have : i = (goes (decide (ks.length = n)) ks).length := by simp at hi; omega
   subst this
   rw [List.getElem_concat_length rfl, hs]
   congr 1; omega
 ·rcases List.mem_append.1 hs with hs | hs
  ·exact h.ok s (goes_mem hs)
  ·rw [List.mem_singleton.1 hs]; exact hok
 ·refine List.pairwise_append.2 ⟨?_, by simp, fun a ha b hb => ?_⟩
  ·by_cases hl : ks.length = n
   ·rw [decide_eq_true hl]; exact h.rise.sublist (List.tail_sublist ks)
   ·rw [decide_eq_false hl]; exact h.rise
  ·rw [List.mem_singleton.1 hb]; exact hr a (goes_mem ha)
 ·rcases List.mem_append.1 hs with hs | hs
  ·exact h.full s (goes_mem hs)
  ·rw [List.mem_singleton.1 hs]; exact hfu
 ·have hk : i < (goes (decide (ks.length = n)) ks).length := by simp at hi; omega
  obtain ⟨h', e⟩ := hg.2 i hk
  rw [List.getElem_append_left hk, e]
  by_cases hk2 : i + 1 < (goes (decide (ks.length = n)) ks).length
  ·obtain ⟨h2, e2⟩ := hg.2 (i + 1) hk2
   rw [List.getElem_append_left hk2, e2]
   have := h.cost (i + (ks.length - (goes (decide (ks.length = n)) ks).length)) (by omega)
   have e3 : i + 1 + (ks.length - (goes (decide (ks.length = n)) ks).length) = i + (ks.length - (goes (decide (ks.length = n)) ks).length) + 1 := by omega
   simp only [e3]; exact this
  ·have hi1 : i + 1 = (goes (decide (ks.length = n)) ks).length := by omega
   have e2 : (goes (decide (ks.length = n)) ks ++ [sg])[i + 1]'hi = sg := by simp [hi1]
   rw [e2]
   have hlast : i + (ks.length - (goes (decide (ks.length = n)) ks).length) = ks.length - 1 := by omega
   have hne : ks ≠ [] := fun e => by rw [e] at h'; cases h'
   have hcc := hc ks.dropLast (ks.getLast hne) (List.dropLast_concat_getLast hne).symm
   rw [List.getLast_eq_getElem] at hcc
   simp only [hlast]; exact hcc
theorem flush_now (s : SDev) : s.flush.now = s.now := rfl
theorem fresh_sec (s : SDev) (p sl nx : Nat) (x : List UInt8) (hx : 1 ≤ x.length) (hx2 : x.length ≤ 424) (hr : ∀ r ∈ s.now, r.length = 64) (hn1 : 1 ≤ nx) (hn : nx ≤ 274877906943) (ha : p + sl * 8 + 8 ≤ s.now.length) (a b : Nat) (hb : b < 8) :
  secAt ((((s.write (p + sl * 8) (encL (nx * 8) [])).flush).puts (p + sl * 8 + 0) (nx * 8 + 0) x (chunks x.length)).now) p a b = if a = sl ∧ b < chunks x.length then some (nx * 8 + b, chunk x b) else secAt s.now p a b := by
 have hc1 : 1 ≤ chunks x.length ∧ chunks x.length ≤ 8 := by unfold chunks; omega
 have hr2 := write_rows s (p + sl * 8) (encL (nx * 8) []) (encL_len _ _ (by omega) (by simp)) hr
 have hl2 : (s.write (p + sl * 8) (encL (nx * 8) [])).flush.now.length = s.now.length := by rw [flush_now]; simp [SDev.write]
 rw [puts_sec ((s.write (p + sl * 8) (encL (nx * 8) [])).flush) p sl 0 nx x (chunks x.length) hr2 (by omega) hn1 hn (by rw [hl2]; exact ha) a b hb]
 by_cases h : a = sl ∧ b < chunks x.length
 ·rw [if_pos ⟨h.1, by omega, by omega⟩, if_pos h, Nat.sub_zero]; rfl
 ·rw [if_neg (by omega), if_neg h]
  unfold secAt
  rw [flush_now, write_now s _ _ (by omega) (encL_len _ _ (by omega) (by simp)) hr, if_neg]
  intro e
  exact h ⟨by omega, by omega⟩
theorem LogInv.fresh {st : LSt} {ks : List Seg} {b0 : Nat} {s : SDev} (h : LogInv st ks b0 s.now) (l : List UInt8) (h1 : 1 ≤ l.length) (h300 : l.length ≤ 300) (hr : ∀ r ∈ s.now, r.length = 64) (hin : st.place + 8 * st.segs ≤ s.now.length) (hb : st.next + 1 ≤ 274877906943)
  (hcost : ∀ ks0 sg, ks = ks0 ++ [sg] → 461 ≤ costs sg.recs + costs [⟨st.next, l, 0⟩]) (f : Nat) :
  LogInv ⟨st.dev, st.place, st.segs, st.hist ++ [⟨st.next, l, 0⟩], st.gone + gonesN (decide (ks.length = st.segs)) ks, f, st.next + 1⟩ (goes (decide (ks.length = st.segs)) ks ++ [⟨(b0 + ks.length) % st.segs, st.next, [⟨st.next, l, 0⟩]⟩]) (baseN (decide (ks.length = st.segs)) b0 st.segs)
   ((((s.write (st.place + (b0 + ks.length) % st.segs * 8) (encL (st.next * 8) [])).flush).puts (st.place + (b0 + ks.length) % st.segs * 8 + 0) (st.next * 8 + 0) (putT l) (chunks (putT l).length)).now) := by
 have hs := h.segs
 have hslt : (b0 + ks.length) % st.segs < st.segs := Nat.mod_lt _ (by omega)
 have hpm := putT_most l h300
 have hpos := putT_pos l
 have hn1 := h.next.1
 have hsec := fun a b (hb8 : b < 8) => fresh_sec s st.place ((b0 + ks.length) % st.segs) st.next (putT l) (by omega) (by omega) hr hn1 h.nxs (by omega) a b hb8
 have hturn := h.ch.turn (by omega)
 have hstx : strm [(⟨st.next, l, 0⟩ : LRec)] = putT l := by simp [strm]
 have hok : (⟨(b0 + ks.length) % st.segs, st.next, [⟨st.next, l, 0⟩]⟩ : Seg).Ok := by
  refine ⟨?_, fun x hx => ?_, fun i hi => ?_, hn1⟩
  ·show (strm _).length ≤ 424
   rw [hstx]; omega
  ·rw [List.mem_singleton.1 hx]; exact ⟨h1, h300⟩
  ·have hi0 : i = 0 := by simpa using hi
   subst hi0; rfl
 have hoth : ∀ x ∈ goes (decide (ks.length = st.segs)) ks, x.slot ≠ (b0 + ks.length) % st.segs := fun x hx => by
  by_cases hl : ks.length = st.segs
  ·rw [decide_eq_true hl] at hx hturn
   have hx : x ∈ ks.tail := hx
   obtain ⟨j, hj, rfl⟩ := List.getElem_of_mem hx
   rw [List.getElem_tail]
   exact hturn.2.2 (j + 1) (by rw [List.length_tail] at hj; omega) (by omega)
  ·rw [decide_eq_false hl] at hx hturn
   have hx : x ∈ ks := hx
   obtain ⟨j, hj, rfl⟩ := List.getElem_of_mem hx
   exact hturn j hj
 have hgone : st.gone + gonesN (decide (ks.length = st.segs)) ks ≤ st.hist.length := by
  have h2 := congrArg List.length h.hist
  rw [List.length_drop] at h2
  have h3 : gonesN (decide (ks.length = st.segs)) ks ≤ (ks.flatMap Seg.recs).length := by
   cases ks with
   | nil => exact Nat.zero_le _
   | cons x ks =>
    show (if decide ((x :: ks).length = st.segs) = true then x.recs.length else 0) ≤ _
    rw [List.flatMap_cons, List.length_append]
    split <;> omega
  have := h.gone
  omega
 refine ⟨h.ch.fresh (by omega) _ rfl hok (by simp) (fun x hx => h.ends x hx) hcost (by omega), ⟨fun x hx => ?_, fun i hi hno k hk => ?_⟩, ?_, fun hl => ?_, fun x hx => ?_, hb, h.segs, fun r hr => ?_, ?_, by simp; omega, ⟨by show 1 ≤ st.next + 1; omega, fun r hr => ?_⟩⟩
 ·rcases List.mem_append.1 hx with hx | hx
  ·have hx0 := h.on.on x (goes_mem hx)
   have hne := hoth x hx
   have hlen8 := nsec_le _ (h.ch.ok x (goes_mem hx)).len
   exact ⟨fun k hk => by show secAt _ st.place x.slot k = _; rw [hsec _ _ (by omega), if_neg fun hh => hne hh.1]; exact hx0.has k hk, fun k h1 h2 m y e => hx0.rest k h1 h2 m y (by have e : secAt _ st.place x.slot k = some (m, y) := e; rw [hsec _ _ h2, if_neg fun hh => hne hh.1] at e; exact e)⟩
  ·rw [List.mem_singleton.1 hx]
   have htx : (⟨(b0 + ks.length) % st.segs, st.next, [⟨st.next, l, 0⟩]⟩ : Seg).text = putT l := hstx
   have hns : nsec (putT l).length = chunks (putT l).length := by unfold nsec chunks; omega
   refine ⟨fun k hk => ?_, fun k hk1 hk2 m y e => ?_⟩
   ·rw [htx, hns] at hk
    rw [htx]
    show secAt _ st.place ((b0 + ks.length) % st.segs) k = _
    rw [hsec _ _ (by unfold chunks at hk; omega), if_pos ⟨rfl, hk⟩]
   ·rw [htx, hns] at hk1
    have e : secAt _ st.place ((b0 + ks.length) % st.segs) k = some (m, y) := e
    rw [hsec _ _ hk2, if_neg (by omega)] at e
    show m < st.next * 8
    by_cases hl : ks.length = st.segs
    ·rw [decide_eq_true hl] at hturn
     have h0 := hturn.1
     have hm0 : ks[0] ∈ ks := List.getElem_mem _
     have hsl0 := hturn.2.1 h0
     have hon0 := h.on.on _ hm0
     have hend0 := h.ends _ hm0
     have hful := List.length_pos_iff.2 (h.ch.full _ hm0)
     unfold Seg.end_ at hend0
     by_cases hk3 : k < nsec (ks[0]).text.length
     ·have h4 := hon0.has k hk3
      rw [hsl0, e] at h4
      injection h4 with h4
      injection h4 with h4 _
      omega
     ·have h4 := hon0.rest k (by omega) hk2 m y (by rw [hsl0]; exact e)
      omega
    ·rw [decide_eq_false hl] at hturn
     have := h.on.none _ hslt (fun x hx => by
      obtain ⟨j, hj, rfl⟩ := List.getElem_of_mem hx
      exact hturn j hj) k hk2
     rw [this] at e; cases e
 ·have hne : i ≠ (b0 + ks.length) % st.segs := fun e => hno ⟨(b0 + ks.length) % st.segs, st.next, [⟨st.next, l, 0⟩]⟩ (by simp) e.symm
  show secAt _ st.place i k = none
  rw [hsec i k hk, if_neg fun hh => hne hh.1]
  refine h.on.none i hi (fun x hx e => ?_) k hk
  by_cases hl : ks.length = st.segs
  ·have hxt : x ∈ ks.tail := by
    cases ks with
    | nil => cases hx
    | cons y ks =>
     rcases List.mem_cons.1 hx with rfl | hx
     ·rw [decide_eq_true hl] at hturn
      exact absurd (e.symm.trans (hturn.2.1 hturn.1)) hne
     ·exact hx
   exact hno x (List.mem_append_left _ (by rw [decide_eq_true hl]; exact hxt)) e
  ·exact hno x (List.mem_append_left _ (by rw [decide_eq_false hl]; exact hx)) e
 ·show (st.hist ++ [_]).drop _ = _
  rw [drop_snoc _ _ _ hgone, ← List.drop_drop, h.hist, goes_drop]
  simp
 ·show st.gone + gonesN (decide (ks.length = st.segs)) ks = 0
  have hle := h.ch.len
  by_cases hl' : ks.length = st.segs
  ·rw [decide_eq_true hl'] at hl
   have hl : (ks.tail ++ [_]).length < st.segs := hl
   rw [List.length_append, List.length_tail, List.length_singleton] at hl
   omega
  ·rw [decide_eq_false hl', h.keep (by omega)]
   cases ks <;> rfl
 ·show x.end_ ≤ st.next + 1
  rcases List.mem_append.1 hx with hx | hx
  ·have := h.ends x (goes_mem hx); omega
  ·rw [List.mem_singleton.1 hx]; exact Nat.le_refl _
 ·rcases List.mem_append.1 hr with hr | hr
  ·exact h.one r hr
  ·rw [List.mem_singleton.1 hr]; exact ⟨h.next.1, h1, h300⟩
 ·refine List.pairwise_append.2 ⟨h.rise, by simp, fun a ha b hb => ?_⟩
  rw [List.mem_singleton.1 hb]
  exact h.next.2 a ha
 ·show r.pos < st.next + 1
  rcases List.mem_append.1 hr with hr | hr
  ·have := h.next.2 r hr; omega
  ·rw [List.mem_singleton.1 hr]; show st.next < st.next + 1; omega
theorem openedL (l : List LRec) (r : LRec) : opened (l ++ [r]) = l ++ [⟨r.pos, r.body, r.opens + 1⟩] := by
 induction l with
 | nil => rfl
 | cons x l ih =>
  cases l with
  | nil => rfl
  | cons y l =>
   show x :: opened (y :: (l ++ [r])) = _
   rw [show y :: (l ++ [r]) = (y :: l) ++ [r] from rfl, ih]; rfl
theorem snoc_of {α : Type} (l : List α) (h : l ≠ []) : ∃ a b, l = a ++ [b] := ⟨l.dropLast, l.getLast h, (List.dropLast_concat_getLast h).symm⟩
theorem LogInv.openedI {st : LSt} {ks : List Seg} {l : Seg} {b0 : Nat} {rows : List (List UInt8)} (h : LogInv st (ks ++ [l]) b0 rows) (f : Nat) (hx : l.first + 212 ≤ 274877906943) :
  LogInv ⟨st.dev, st.place, st.segs, opened st.hist, st.gone, f, l.first + 212⟩ (ks ++ [⟨l.slot, l.first, opened l.recs⟩]) b0 rows ∧ 461 ≤ costs (opened l.recs) := by
 have hl := h.ch.ok l (by simp)
 have hne := h.ch.full l (by simp)
 obtain ⟨rs, r, hrs⟩ := snoc_of l.recs hne
 have ho : opened l.recs = rs ++ [⟨r.pos, r.body, r.opens + 1⟩] := by rw [hrs, openedL]
 have htx : strm (opened l.recs) = l.text := by rw [ho]; unfold Seg.text; rw [hrs, strm_snoc, strm_snoc]
 have hcnt := hl.count
 have hr1 := hl.one r (by rw [hrs]; simp)
 have hcost : costs l.recs + 400 = costs (opened l.recs) ∧ 461 ≤ costs (opened l.recs) := by
  rw [ho, hrs, costs_append, costs_append]
  simp only [costs, List.map_cons, List.map_nil, List.sum_cons, List.sum_nil, LRec.cost]
  omega
 have hlen : (opened l.recs).length = l.recs.length := by rw [ho, hrs]; simp
 have hok : (⟨l.slot, l.first, opened l.recs⟩ : Seg).Ok := by
  refine ⟨?_, fun x hx => ?_, fun i hi => ?_, hl.first⟩
  ·show (strm _).length ≤ 424; rw [htx]; exact hl.len
  ·have hx : x ∈ opened l.recs := hx
   rw [ho] at hx
   rcases List.mem_append.1 hx with hx | hx
   ·exact hl.one x (by rw [hrs]; exact List.mem_append_left _ hx)
   ·rw [List.mem_singleton.1 hx]; exact hr1
  ·have hi : i < (opened l.recs).length := hi
   have hp := hl.pos i (by rw [← hlen]; exact hi)
   have hp2 : (l.recs[i]'(by rw [← hlen]; exact hi)).pos = ((rs ++ [r])[i]'(by rw [hlen, hrs] at hi; exact hi)).pos := by simp only [hrs]
   show ((opened l.recs)[i]).pos = l.first + i
   rw [← hp, hp2]
   simp only [ho]
   by_cases hk : i < rs.length
   ·rw [List.getElem_append_left hk, List.getElem_append_left hk]
   ·have : i = rs.length := by rw [ho] at hi; simp at hi; omega
    subst this
    rw [List.getElem_concat_length rfl, List.getElem_concat_length rfl]
 have hh := h.hist
 rw [List.flatMap_append, List.flatMap_cons, List.flatMap_nil, List.append_nil, hrs, ← List.append_assoc] at hh
 have hg : st.gone < st.hist.length := by
  refine Classical.byContradiction fun hn => ?_
  rw [List.drop_eq_nil_of_le (by omega)] at hh
  have := congrArg List.length hh
  simp at this
 have hhist : st.hist = st.hist.take st.gone ++ (ks.flatMap Seg.recs ++ rs) ++ [r] := by
  conv => lhs; rw [← List.take_append_drop st.gone st.hist]
  rw [hh]; simp
 have hop : opened st.hist = st.hist.take st.gone ++ (ks.flatMap Seg.recs ++ rs) ++ [⟨r.pos, r.body, r.opens + 1⟩] := by
  conv => lhs; rw [hhist]
  rw [openedL]
 have hmem : ∀ x ∈ opened st.hist, ∃ y ∈ st.hist, y.pos = x.pos ∧ y.body = x.body := fun x hx => by
  rw [hop] at hx
  rcases List.mem_append.1 hx with hx | hx
  ·exact ⟨x, by rw [hhist]; exact List.mem_append_left _ hx, rfl, rfl⟩
  ·rw [List.mem_singleton.1 hx]
   exact ⟨r, by rw [hhist]; simp, rfl, rfl⟩
 have hend : l.end_ ≤ l.first + 212 := by unfold Seg.end_; omega
 have hposr : r.pos < l.end_ := by
  have := hl.pos rs.length (by rw [hrs]; simp)
  have e : (l.recs[rs.length]'(by rw [hrs]; simp)) = r := by simp only [hrs]; rw [List.getElem_concat_length rfl]
  rw [e] at this
  unfold Seg.end_
  rw [hrs]; simp; omega
 refine ⟨⟨h.ch.last_ rfl rfl hok (by rw [ho]; simp) (by show costs l.recs ≤ costs (opened l.recs); omega), ⟨fun s hs => ?_, fun i hi hno => ?_⟩, ?_, fun hlt => h.keep (by simpa using hlt), fun s hs => ?_, hx, h.segs, fun x hx => ?_, ?_, ?_, ⟨by show 1 ≤ l.first + 212; omega, fun x hx => ?_⟩⟩, hcost.2⟩
 ·rcases List.mem_append.1 hs with hs | hs
  ·exact h.on.on s (List.mem_append_left _ hs)
  ·rw [List.mem_singleton.1 hs]
   have h0 := h.on.on l (by simp)
   exact ⟨fun k hk => by
    have e : (⟨l.slot, l.first, opened l.recs⟩ : Seg).text = l.text := htx
    rw [e] at hk ⊢
    exact h0.has k hk, fun k h1 h2 n x e2 => by
    have e : (⟨l.slot, l.first, opened l.recs⟩ : Seg).text = l.text := htx
    rw [e] at h1
    exact h0.rest k h1 h2 n x e2⟩
 ·exact h.on.none i hi fun s hs e => by
   rcases List.mem_append.1 hs with hs | hs
   ·exact hno s (List.mem_append_left _ hs) e
   ·rw [List.mem_singleton.1 hs] at e
    exact hno ⟨l.slot, l.first, opened l.recs⟩ (by simp) e
 ·show (opened st.hist).drop st.gone = _
  rw [hop, List.append_assoc, List.drop_append_of_le_length (by rw [List.length_take]; omega), List.drop_eq_nil_of_le (by rw [List.length_take]; omega)]
  simp [ho]
 ·show s.end_ ≤ l.first + 212
  rcases List.mem_append.1 hs with hs | hs
  ·have := (List.pairwise_append.1 h.ch.rise).2.2 s hs l (by simp); omega
  ·rw [List.mem_singleton.1 hs]
   show l.first + (opened l.recs).length ≤ _
   rw [hlen]; exact hend
 ·obtain ⟨y, hy, e1, e2⟩ := hmem x hx
  have := h.one y hy
  rw [e1, e2] at this; exact this
 ·show (opened st.hist).Pairwise (·.pos < ·.pos)
  rw [hop]
  have hr := h.rise
  rw [hhist] at hr
  have hr := List.pairwise_append.1 hr
  exact List.pairwise_append.2 ⟨hr.1, by simp, fun a ha b hb => by
   rw [List.mem_singleton.1 hb]
   exact hr.2.2 a ha r (by simp)⟩
 ·show st.gone ≤ (opened st.hist).length
  rw [hop]
  have e := congrArg List.length hhist
  simp only [List.length_append, List.length_singleton] at e ⊢
  omega
 ·show x.pos < l.first + 212
  rw [hop] at hx
  have hrise := h.rise
  rw [hhist] at hrise
  rcases List.mem_append.1 hx with hx | hx
  ·have := (List.pairwise_append.1 hrise).2.2 x hx r (by simp); omega
  ·rw [List.mem_singleton.1 hx]; show r.pos < _; omega
end Go.Proofs.YticophaepapjoaaGreatDoor
namespace Go.Proofs.YticophaepapjoaaGreatDoor
open Go Go.RowKit Go.Joins
set_option maxRecDepth 100000 in
set_option maxHeartbeats 2000000 in
theorem lread_any (w : World) (hT : Taken w) (q : Nat) (Fs : Foot) (p i n : Nat) (ks : List Seg) (sl left nx : Nat) (tl : List UInt8) (K T : Value) (Es : List Value) (h : LogAt w q Fs p i n ks sl left nx tl K T Es) (F : Foot) (s : SDev) (hd : DAt w p F s)
  (hg : ∀ sg ∈ ks, Good s.now i n sg) (hrise : ks.Pairwise fun a b => a.end_ ≤ b.first) (hn : n ≤ 200) (hin : i + 8 * n ≤ s.now.length) (t : Nat) (ht : t < ks.length) (sg : Seg) (hsg : ks[t] = sg) (j : Nat) (hj : j < sg.recs.length) (z : Int) (hz : z = ((sg.first + j : Nat) : Int)) :
  Calls Tryz.prog 85 #[.pointer (some ⟨q, 0, none⟩), .int .i64 z] w fun e w' => ∃ v, e = .returned (.tuple #[v, .int .i64 0]) ∧ BodyV w w' v (sg.recs[j]).body ∧ Kp w w' := by
 have hsm := hd.ok.small
 have HDN := Lib.hid (down_no w q p i n h.head)
 have HBD := Lib.hid (fun (w' : World) (hk : Kp w w') (sg : Seg) (E : Value) (hm : sg ∈ ks) (hE : SegV w' Fs.M sg E) (j : Nat) (hj : j < sg.recs.length) => body_any w' (hT.keep hk) q p i n (h.head.keep hk trivial) F s (hd.keep (hk.mono fun _ _ _ => trivial)) sg E Fs.M hE (hg sg hm).ok (hg sg hm).on (by omega) (by have := (hg sg hm).slot; omega) (hg sg hm).first (by have := (hg sg hm).slot; omega) j hj)
 have HGC := Lib.hid (fun (k : Nat) (hk : k < ks.length) => (show (ks[k]).recs.length ≤ 212 ∧ (ks[k]).first ≤ 274877906943 from ⟨(hg _ (List.getElem_mem hk)).ok.count, (hg _ (List.getElem_mem hk)).first⟩))
 have HRI := Lib.hid (fun (k : Nat) (hkl : k < ks.length) (hk : k < t) => (show (ks[k]).first + (ks[k]).recs.length ≤ sg.first from by rw [← hsg]; exact List.pairwise_iff_getElem.1 hrise k t hkl ht hk))
 obtain ⟨A, c, rfl, hlc, hcm, hs⟩ := h.segs
 unfold maxLen at hcm
 have c3 := (cell_of_block h.blk 3).trans rfl
 have HSG := Lib.hid hs
 have HHT := Lib.hid ht
 obtain ⟨f, hf⟩ : ∃ f, sg.first = f := ⟨_, rfl⟩
 have HSGT := Lib.hid hsg
 have hgt1 : j < 212 := Nat.lt_of_lt_of_le hj (by rw [← hsg]; exact (HGC.out t ht).1)
 have hf2 : f ≤ 274877906943 := by rw [← hf, ← hsg]; exact (HGC.out t ht).2
 have hzf : z = (f : Int) + (j : Int) := by rw [hz, hf]; omega
 have HF := Lib.hid hf
 have HJ := Lib.hid hj
 clear h hs hT hd hg hrise hz hf hsg
 subst hzf
 go_enter Tryz.func85, Tryz.ntmps85
 go_wp2_with fail
 refine HDN.out.mono ?_
 rintro e w' ⟨rfl, rfl⟩
 go_wp2_with fail
 go_loopw [17] (fun vk wr => ∃ k : Nat, k ≤ t ∧ vk = .int .i64 k ∧ Kp w wr) (fun vk _ => ks.length - (intOf vk).toNat)
 case atStart => exact ⟨0, Nat.zero_le _, rfl, Keeps.refl _ _⟩
 case round =>
  obtain ⟨k, hk, rfl, hkp⟩ := hrel
  have hlt : k < ks.length := by omega
  obtain ⟨b, o, E, rfl, hbM, d0, d1, d2, hE⟩ := (HSG.out.keep (hkp.mono fun _ _ _ => trivial)) k hlt
  obtain ⟨AE, cE, rfl, -⟩ := hE.ex
  have HE := Lib.hid hE
  have HK := Lib.hid hkp
  have HMEM := Lib.hid (List.getElem_mem hlt)
  have HGK := Lib.hid (HGC.out k hlt)
  have HRK := Lib.hid (HRI.out k hlt)
  have HTK := Lib.hid (show ∀ e : k = t, ks[k] = sg from fun e => by subst e; exact HSGT.out)
  generalize ks[k] = sk at d0 d1 d2 HE HMEM HGK HRK HTK
  obtain ⟨m, hm⟩ : ∃ m, sk.recs.length = m := ⟨_, rfl⟩
  obtain ⟨fk, hfk⟩ : ∃ fk, sk.first = fk := ⟨_, rfl⟩
  have HM := Lib.hid hm
  have HFK := Lib.hid hfk
  have hgk1 : m ≤ 212 := by subst hm; exact HGK.out.1
  have hgk2 : fk ≤ 274877906943 := by subst hfk; exact HGK.out.2
  rw [hm] at d2
  rw [hfk] at d1
  have hcs : (k < t ∧ fk + m ≤ f) ∨ k = t := by
   rcases Nat.lt_or_ge k t with h | h
   ·left; refine ⟨h, ?_⟩
    have := HRK.out h
    rw [hm, hfk, HF.out] at this; exact this
   ·right; omega
  have HNX := Lib.hid (fun w' => snext_any w' sk.slot fk AE m cE (by omega) (by omega))
  have HK2 := Lib.hid (show Kp wr (wr.alloc (.cells #[.int .i64 (sk.slot : Int), .int .i64 (fk : Int), .slice AE m cE] 179)) from (Keeps.refl _ wr).alloc _)
  have HBX := Lib.hid (SBox.new wr sk.slot fk (.slice AE m cE))
  obtain ⟨w0, hw0⟩ : ∃ w0, wr.alloc (.cells #[.int .i64 (sk.slot : Int), .int .i64 (fk : Int), .slice AE m cE] 179) = w0 := ⟨_, rfl⟩
  have HW0 := Lib.hid hw0
  rw [hw0] at HK2 HBX
  clear hE hkp hm hfk hw0
  rcases hcs with ⟨hkt, hle⟩ | rfl
  ·have t1 : decide ((f : Int) + (j : Int) < (fk : Int)) = false := by simp; omega
   have t2 : decide ((fk : Int) + (m : Int) ≤ (f : Int) + (j : Int)) = true := by simp; omega
   generalize sk.slot = ss at d0 HNX HBX HW0
   go_wp2_with fail
   rw [HW0.out]
   refine (HNX.out w0).mono ?_
   rintro e' w1 ⟨rfl, hk1⟩
   have HK1 := Lib.hid (HK.out.trans (HK2.out.trans hk1))
   clear hk1
   go_wp2_with fail
   go_roundw
   case rel => exact ⟨k + 1, by omega, by go_num, HK1.out⟩
   case measure => simp [intOf]; omega
  ·obtain rfl : sk = sg := HTK.out rfl
   obtain rfl : fk = f := HFK.out.symm.trans HF.out
   have t1 : decide ((fk : Int) + (j : Int) < (fk : Int)) = false := by simp; omega
   have hj2 : j < m := by rw [← HM.out]; exact HJ.out
   have t2 : decide ((fk : Int) + (m : Int) ≤ (fk : Int) + (j : Int)) = false := by simp; omega
   have q1 : (fk : Int) + (j : Int) - (fk : Int) = (j : Int) := by omega
   obtain ⟨y, hy⟩ : ∃ y, (sk.recs[j]'(HJ.out)).body = y := ⟨_, rfl⟩
   have HY := Lib.hid hy
   have hb := fun w1 (hk : Kp w0 w1) => (show Calls Tryz.prog 119 #[.pointer (some ⟨q, 0, none⟩), .agg #[.int .i64 (sk.slot : Int), .int .i64 (fk : Int), .slice AE m cE], .int .i64 (j : Int)] w1 fun e w' => ∃ b, e = .returned (.tuple #[b, .bool true]) ∧ BodyV w1 w' b y ∧ Kp w1 w' from by
    have h := HBD.out w1 (HK.out.trans (HK2.out.trans hk)) sk _ HMEM.out (HE.out.keep ((HK2.out.trans hk).mono fun _ _ _ => trivial)) j HJ.out
    rw [hy] at h
    have e1 := HM.out
    have e2 := HFK.out
    subst e1 e2
    exact h)
   have HB := Lib.hid hb
   clear hy
   generalize sk.slot = ss at d0 HNX HBX HW0 HB
   clear hb
   go_wp2_with fail
   rw [HW0.out]
   refine (HNX.out w0).mono ?_
   rintro e' w1 ⟨rfl, hk1⟩
   have hbx := HBX.out.keep hk1 trivial
   have e0 := hbx.s
   have e1 := hbx.f
   have e2 := hbx.e
   have HB1 := Lib.hid (HB.out w1 hk1)
   have HK1 := Lib.hid (HK.out.trans (HK2.out.trans hk1))
   clear hk1 hbx HB
   go_wp2_with fail
   refine HB1.out.mono ?_
   rintro e' w2 ⟨v, rfl, hbv, hk2⟩
   have H1 := Lib.hid (hbv.from (w0 := w) HK1.out.size)
   have H2 := Lib.hid (HK1.out.trans hk2)
   clear hbv hk2 e0 e1 e2
   go_wp2_with fail
   go_ret2
   exact ⟨_, rfl, by rw [HY.out]; exact H1.out, H2.out⟩
def slogRep (w : World) (q : Nat) (Fs : Foot) (st : LSt) (s : SDev) : Prop :=
 ∃ (ks : List Seg) (b0 left : Nat) (tl : List UInt8) (K T : Value) (Es : List Value), LogAt w q Fs st.dev st.place st.segs ks ((b0 + ks.length) % st.segs) left st.next tl K T Es ∧ LogInv st ks b0 s.now ∧ Tip ks st.next left tl ∧ st.first = firstOf st.next ks
def slogDisk (st : LSt) (rows : List (List UInt8)) : Prop := ∃ ks b0, LogInv st ks b0 rows
theorem recs_at {w w' : World} {v : Value} {l : List (Nat × List UInt8)} (h : RecRow w' w.heap.size v l) : ∃ A c, v = .slice A l.length c ∧ RecsAt w' A (fun b => w.heap.size ≤ b ∧ b < w'.heap.size) l := by
 obtain ⟨vs, h1, h2, h3⟩ := h.ex
 rcases Nat.eq_zero_or_pos l.length with h0 | hp
 ·obtain ⟨A, c, e⟩ := own_form h2
  exact ⟨A, c, e, fun hne => absurd (List.eq_nil_of_length_eq_zero h0) hne⟩
 ·obtain ⟨g, c, rfl, hb, hlt⟩ := h2.form hp
  refine ⟨_, c, rfl, fun _ => ⟨g, 0, rfl, ⟨hb, hlt⟩, fun i hi => ?_⟩⟩
  have hc := recC_at l vs h1 i hi
  obtain ⟨B, d, e, hr⟩ := h3 i hi
  have c0 := h2.cells (g := g) rfl _ _ hc.1
  have c1 := h2.cells (g := g) rfl (i * 2 + 1) _ (hc.2.trans e)
  rw [WideShapes.add_plain, Nat.zero_add] at c0 c1
  refine ⟨by rw [Nat.zero_add]; exact c0, B, d, by rw [Nat.zero_add]; exact c1, hr.r.mono fun b hb' hb => ⟨hb.1, hb'⟩⟩
def RecsD (w : World) (A : Option Addr) (G : Nat → Prop) (l : List (Nat × List UInt8)) : Prop :=
 l ≠ [] → ∃ b o, A = some ⟨b, o, none⟩ ∧ G b ∧ ∀ i (hi : i < l.length), w.cell? ⟨b, o + i * 2, none⟩ = some (.int .i64 ((l[i].1 : Nat) : Int)) ∧
  ∃ B c, w.cell? ⟨b, o + i * 2 + 1, none⟩ = some (.slice B l[i].2.length c) ∧ l[i].2.length ≤ c ∧ c ≤ maxLen ∧ Row w B G (bcells l[i].2)
theorem recs_c {w w' : World} {v : Value} {l : List (Nat × List UInt8)} (h : RecRow w' w.heap.size v l) : ∃ A c, v = .slice A l.length c ∧ l.length ≤ c ∧ c ≤ maxLen ∧ RecsD w' A (fun b => w.heap.size ≤ b ∧ b < w'.heap.size) l := by
 obtain ⟨vs, h1, h2, h3⟩ := h.ex
 obtain ⟨A, c, e⟩ := own_form h2
 subst e
 have hf : l.length ≤ c ∧ c ≤ maxLen := by
  rcases h2.2 with ⟨h', h0⟩ | ⟨g', cap', cur, h', _, _, h1, h2, _⟩
  ·injection h' with ha hb hc
   rw [hb, hc]
   exact ⟨Nat.le_refl _, Nat.zero_le _⟩
  ·injection h' with ha hb hc
   rw [hc]
   exact ⟨h1, h2⟩
 refine ⟨A, c, rfl, hf.1, hf.2, fun hne => ?_⟩
 obtain ⟨g, c', e, hb, hlt⟩ := h2.form (List.length_pos_iff.2 hne)
 injection e with e1 e2 e3
 subst e1
 refine ⟨g, 0, rfl, ⟨hb, hlt⟩, fun i hi => ?_⟩
 have hc := recC_at l vs h1 i hi
 obtain ⟨B, d, e, hr⟩ := h3 i hi
 have c0 := h2.cells (g := g) rfl _ _ hc.1
 have c1 := h2.cells (g := g) rfl (i * 2 + 1) _ (hc.2.trans e)
 rw [WideShapes.add_plain, Nat.zero_add] at c0 c1
 have hfit := hr.fit
 rw [bcells_len] at hfit
 exact ⟨by rw [Nat.zero_add]; exact c0, B, d, by rw [Nat.zero_add]; exact c1, hfit.1, hfit.2, hr.r.mono fun b hb' hb => ⟨hb.1, hb'⟩⟩
theorem LogAt.same {w : World} {q p i n sl left nx : Nat} {F : Foot} {ks : List Seg} {l l' : Seg} {tl : List UInt8} {K T : Value} {Es : List Value} (h : LogAt w q F p i n (ks ++ [l]) sl left nx tl K T Es) (h1 : l'.slot = l.slot) (h2 : l'.first = l.first) (h3 : l'.recs.length = l.recs.length) (h4 : endsC l'.recs = endsC l.recs) : LogAt w q F p i n (ks ++ [l']) sl left nx tl K T Es := by
 have hl : (ks ++ [l']).length = (ks ++ [l]).length := by simp
 have hlen := h.ends.len
 have hc : segC (ks ++ [l']) Es = segC (ks ++ [l]) Es := by
  obtain ⟨E0, E, rfl⟩ := snoc_of Es (fun e => by rw [e] at hlen; simp at hlen)
  have he : E0.length = ks.length := by simp at hlen; exact hlen
  rw [segC_append _ _ _ _ he, segC_append _ _ _ _ he]
  simp [segC, Seg.cells, h1, h2]
 refine ⟨h.blk, by rw [hl, hc]; exact h.row, ⟨by rw [hl]; exact hlen, fun j hj => ?_, h.ends.out, h.ends.two⟩, h.kq, h.tail, h.mq, h.mkk, h.me, h.lt, h.apart⟩
 have hh := h.ends.own j (by rw [← hl]; exact hj)
 by_cases hk : j < ks.length
 ·rw [List.getElem_append_left hk] at hh ⊢; exact hh
 ·have : j = ks.length := by simp at hj; omega
  subst this
  rw [List.getElem_concat_length rfl] at hh ⊢
  rw [h3, h4]; exact hh
theorem endsC_opened (rs : List LRec) : endsC (opened rs) = endsC rs ∧ (opened rs).length = rs.length := by
 by_cases h : rs = []
 ·subst h; exact ⟨rfl, rfl⟩
 ·obtain ⟨a, r, rfl⟩ := snoc_of rs h
  rw [openedL]
  refine ⟨?_, by simp⟩
  rw [endsC_snoc, endsC_snoc]
theorem tail_drop (a b tl : List UInt8) (h : tl = a.drop (a.length / 53 * 53)) : (tl ++ b).drop ((tl ++ b).length / 53 * 53) = (a ++ b).drop ((a ++ b).length / 53 * 53) := by
 have htl : tl.length = a.length % 53 := by rw [h, List.length_drop]; omega
 have e : (a ++ b).drop (a.length / 53 * 53) = tl ++ b := by rw [List.drop_append_of_le_length (by omega), ← h]
 rw [← e, List.drop_drop]
 congr 1
 rw [List.length_drop, List.length_append]
 omega
theorem new_gap {W : World} (hT : Taken W) (F : Foot) (h : ∀ b, F.all b → W.heap.size ≤ b) : ¬ F.M 0 := fun hm => by
 have h1 : 0 < W.heap.size := World.block_lt_of_cell? W _ (hT 0 (by decide))
 have := h _ (.inl hm)
 omega
theorem base_next (full : Bool) (b0 n m g : Nat) (hg : g = if full then m - 1 else m) (hm : full = true → 1 ≤ m) : (baseN full b0 n + (g + 1)) % n = ((b0 + m) % n + 1) % n := by
 rw [Nat.mod_add_mod]
 cases full
 ·rw [hg]; rfl
 ·have := hm rfl
  unfold baseN
  rw [if_pos rfl, Nat.mod_add_mod, hg, if_pos rfl]
  congr 1; omega
theorem went_next {w w1 : World} {q p i n sl left nx : Nat} {F F' Fs Fs' : Foot} {ks : List Seg} {tl : List UInt8} {K T : Value} {Es : List Value} (hq : Fs.M q) (hl : LogAt w1 q Fs' p i n ks sl left nx tl K T Es) (hd : ∀ s, DAt w1 p F' s → True) (h : Went w w1 F F' Fs Fs') (nx' : Nat) : Went w (w1.setCell ⟨q, 7, none⟩ (.int .i64 (nx' : Int))) F F' Fs Fs' :=
 ⟨h.ap, h.k.trans ((Keeps.refl _ w1).setCell (.inr fun hn => hn.2 hq) _), h.f1, h.f2, h.f3, h.f4⟩
theorem LogInv.empty (p i n f : Nat) (rows : List (List UInt8)) (h3 : 3 ≤ n) (hn : n ≤ 200) (hon : OnDisk rows i n []) : LogInv ⟨p, i, n, [], 0, f, 1⟩ [] 0 rows where
 ch := ⟨by show 0 < n; omega, Nat.zero_le _, fun i hi => absurd hi (Nat.not_lt_zero _), fun s hs => (nomatch hs), List.Pairwise.nil, fun s hs => (nomatch hs), fun i hi => absurd hi (Nat.not_lt_zero _)⟩
 on := hon
 hist := rfl
 keep := fun _ => rfl
 ends := fun s hs => nomatch hs
 nxs := by show 1 ≤ _; omega
 segs := ⟨h3, hn⟩
 one := fun r hr => nomatch hr
 rise := List.Pairwise.nil
 gone := Nat.le_refl _
 next := ⟨Nat.le_refl _, fun r hr => nomatch hr⟩
theorem LogInv.dev_ {d d' i n g f f' x : Nat} {hist : List LRec} {ks : List Seg} {b0 : Nat} {rows : List (List UInt8)} (h : LogInv ⟨d, i, n, hist, g, f, x⟩ ks b0 rows) : LogInv ⟨d', i, n, hist, g, f', x⟩ ks b0 rows :=
 ⟨h.ch, h.on, h.hist, h.keep, h.ends, h.nxs, h.segs, h.one, h.rise, h.gone, h.next⟩
theorem tip_nil (nx : Nat) : Tip [] nx 0 [] := .inl ⟨rfl, rfl, fun ks0 sg e => by simp at e⟩
theorem s_openNew (w : World) (p : Nat) (F : Foot) (s : SDev) (hd : DAt w p F s) (hT : Taken w) (i n : Nat) (h3 : 3 ≤ n) (hn : n ≤ 200) (hin : i + 8 * n ≤ s.now.length) (hb : ∀ j, i ≤ j → j < i + 8 * n → s.now.getD j [] = blank) :
  Calls Tryz.prog 96 #[.pointer (some ⟨p, 0, none⟩), .int .i64 i, .int .i64 n] w fun e w' => ∃ (q : Nat) (Fs : Foot) (f x : Nat), e = .returned (.tuple #[.pointer (some ⟨q, 0, none⟩), .int .i64 0]) ∧
   slogRep w' q Fs ⟨p, i, n, [], 0, f, x⟩ s ∧ x ≤ 1048576 ∧ (∀ b, Fs.all b → w.heap.size ≤ b) ∧ Keeps (fun _ => True) w w' := by
 have hsm := hd.ok.small
 have hon : OnDisk s.now i n [] := ⟨fun s hs => (by cases hs), fun j hj _ k hk => by unfold secAt; rw [hb _ (by omega) (by omega)]; exact decL_blank k⟩
 refine (lopen_any w hT p F s hd i n h3 hn (by omega) hin [] 0 1 (find_new w hT p F s hd i n hn (by omega) hin hon)).mono ?_
 rintro e w' ⟨rfl, Fs, K, Es, hl, hF, hk⟩
 refine ⟨w.heap.size, Fs, 1, 1, rfl, ⟨[], 0, 0, [], K, .slice none 0 0, Es, ?_, LogInv.empty p i n 1 _ h3 hn hon, tip_nil _, rfl⟩, by omega, hF, hk⟩
 have e : (0 + ([] : List Seg).length) % n = 0 := by simp
 show LogAt w' w.heap.size Fs p i n [] ((0 + ([] : List Seg).length) % n) 0 1 [] K _ Es
 rw [e]; exact hl
theorem s_openOld (w : World) (p : Nat) (F : Foot) (s : SDev) (st : LSt) (hd : DAt w p F s) (hT : Taken w) (hD : slogDisk st s.now) (hin : st.place + 8 * st.segs ≤ s.now.length) (hnx : st.next ≤ 137438953472) :
  Calls Tryz.prog 96 #[.pointer (some ⟨p, 0, none⟩), .int .i64 st.place, .int .i64 st.segs] w fun e w' => ∃ (q : Nat) (Fs : Foot) (f x : Nat), e = .returned (.tuple #[.pointer (some ⟨q, 0, none⟩), .int .i64 0]) ∧
   slogRep w' q Fs ⟨p, st.place, st.segs, opened st.hist, st.gone, f, x⟩ s ∧ x ≤ st.next + 1048576 ∧ (∀ b, Fs.all b → w.heap.size ≤ b) ∧ Keeps (fun _ => True) w w' := by
 have hsm := hd.ok.small
 obtain ⟨ks, b0, h⟩ := hD
 have hs := h.segs
 by_cases hne : ks = []
 ·subst hne
  have hg : st.gone = 0 := h.keep (by simp; omega)
  have hh : st.hist = [] := by have := h.hist; rw [hg] at this; simpa using this
  refine (lopen_any w hT p F s hd st.place st.segs hs.1 hs.2 (by omega) hin [] 0 1 (find_new w hT p F s hd st.place st.segs hs.2 (by omega) hin h.on)).mono ?_
  rintro e w' ⟨rfl, Fs, K, Es, hl, hF, hk⟩
  rw [hh, hg]
  refine ⟨w.heap.size, Fs, 1, 1, rfl, ⟨[], 0, 0, [], K, .slice none 0 0, Es, ?_, LogInv.empty p st.place st.segs 1 _ hs.1 hs.2 h.on, tip_nil _, rfl⟩, by omega, hF, hk⟩
  have e : (0 + ([] : List Seg).length) % st.segs = 0 := by simp
  show LogAt w' w.heap.size Fs p st.place st.segs [] ((0 + ([] : List Seg).length) % st.segs) 0 1 [] K _ Es
  rw [e]; exact hl
 ·obtain ⟨k0, l, rfl⟩ := snoc_of ks hne
  have hfs : ∀ sg ∈ k0 ++ [l], sg.first ≤ 274877906943 := fun sg hsg => (h.good sg hsg).first
  have hlf : l.first ≤ st.next := by have := h.ends l (by simp); unfold Seg.end_ at this; omega
  obtain ⟨hi, hc⟩ := h.openedI (firstOf (l.first + 212) (k0 ++ [⟨l.slot, l.first, opened l.recs⟩])) (by omega)
  refine (lopen_any w hT p F s hd st.place st.segs hs.1 hs.2 (by omega) hin _ _ _ (find_old w hT p F s hd st.place st.segs hs.2 (by omega) hin k0 l b0 h.ch h.on hfs)).mono ?_
  rintro e w' ⟨rfl, Fs, K, Es, hl, hF, hk⟩
  have ho := endsC_opened l.recs
  have hl' := hl.same (l' := ⟨l.slot, l.first, opened l.recs⟩) rfl rfl ho.2 ho.1
  have elen : (k0 ++ [l]).length = (k0 ++ [(⟨l.slot, l.first, opened l.recs⟩ : Seg)]).length := by simp
  rw [elen] at hl'
  exact ⟨w.heap.size, Fs, firstOf (l.first + 212) (k0 ++ [⟨l.slot, l.first, opened l.recs⟩]), l.first + 212, rfl, ⟨_, b0, 0, [], K, .slice none 0 0, Es, hl', hi.dev_, .inl ⟨rfl, rfl, fun ks0 sg e => by
   have := List.append_inj_right' e rfl
   injection this with this _
   rw [← this]; exact hc⟩, rfl⟩, by omega, hF, hk⟩
theorem s_append (W w : World) (p q : Nat) (F Fs : Foot) (s : SDev) (st : LSt) (hd : DAt w p F s) (hrep : slogRep w q Fs st s) (hdev : st.dev = p) (ha : Apart F Fs) (hTW : Taken W) (hkW : Keeps (fun _ => True) W w) (hFW : ∀ b, F.all b → W.heap.size ≤ b) (hFsW : ∀ b, Fs.all b → W.heap.size ≤ b) (hin : st.place + 8 * st.segs ≤ s.now.length) (hcalls : s.calls ≤ 549755813888) (hnx : st.next ≤ 137438953472)
  (A : Option Addr) (c : Nat) (G : Nat → Prop) (l : List UInt8) (hr : Row w A G (bcells l)) (hlc : l.length ≤ c) (hcm : c ≤ maxLen) (h1 : 1 ≤ l.length) (h300 : l.length ≤ 300) :
  Calls Tryz.prog 71 #[.pointer (some ⟨q, 0, none⟩), .slice A l.length c] w fun e w' => ∃ (x : Nat) (F' Fs' : Foot) (s' : SDev) (g f n : Nat), e = .returned (.tuple #[.int .i64 (x : Int), .int .i64 0]) ∧ DAt w' p F' s' ∧ slogRep w' q Fs' ⟨p, st.place, st.segs, st.hist ++ [⟨x, l, 0⟩], g, f, n⟩ s' ∧ st.gone ≤ g ∧ st.next ≤ x ∧ n ≤ st.next + 1048576 ∧
   s'.now.length = s.now.length ∧ (∀ i, ¬ st.has i → s'.now.getD i [] = s.now.getD i []) ∧ s'.calls ≤ s.calls + 1000 ∧
   Apart F' Fs' ∧ Keeps (fun b => ¬ F.M b ∧ ¬ Fs.M b) w w' ∧ (∀ b, F'.M b → F.M b ∨ w.heap.size ≤ b) ∧ (∀ b, F'.I b → F.all b ∨ w.heap.size ≤ b) ∧ (∀ b, Fs'.M b → Fs.M b ∨ w.heap.size ≤ b) ∧ (∀ b, Fs'.I b → Fs.all b ∨ w.heap.size ≤ b) := by
 subst hdev
 obtain ⟨ks, b0, left, tl, K, T, Es, hl, h, htip, hfst⟩ := hrep
 have hsm := hd.ok.small
 have hrows := hd.ok.nrow
 have hs := h.segs
 have hT := hTW.keep hkW
 have hTM := new_gap hTW F hFW
 have hTS := new_gap hTW Fs hFsW
 have hpm := putT_most l h300
 have hpos := putT_pos l
 have hlen := h.ch.len
 have hgood := h.good
 have hMq := hl.mq
 by_cases hfit : ∃ ks0 sg, ks = ks0 ++ [sg] ∧ left = 424 - sg.text.length ∧ tl = sg.text.drop (sg.text.length / 53 * 53) ∧ st.next = sg.end_ ∧ (putT l).length ≤ left
 ·obtain ⟨ks0, sg, rfl, hleft, htl, hend, hfits⟩ := hfit
  have hg := hgood sg (by simp)
  have hcnt := hg.ok.count
  have hl424 := hg.ok.len
  have htx : endAt sg.recs sg.recs.length = sg.text.length := endAt_len _
  have htll : tl.length = sg.text.length % 53 := by rw [htl, List.length_drop]; omega
  have hk0 : ks0.length ≤ 200 := by simp at hlen; omega
  refine (lappend_fit w hT q Fs st.dev st.place st.segs ks0 sg _ left st.next tl K T Es hl F s hd ha hTM A c G l hr h1 h300 hlc hcm hfits (by omega) (by rw [htx]; omega) (by rw [htx]; exact htll) (by omega) (by omega) hg.slot hs.2 hin hg.first hk0 hcalls (by omega) ⟨st.next, l, 0⟩ rfl).mono ?_
  rintro e w' ⟨rfl, w1, ⟨F', Fs', T', tl', Es', hd1, htl', hl1, hw1⟩, rfl⟩
  rw [htx] at hd1
  have hd1 : DAt w1 st.dev F' (s.puts (st.place + sg.slot * 8 + sg.text.length / 53) (sg.first * 8 + sg.text.length / 53) (tl ++ putT l) (chunks (tl ++ putT l).length)) := hd1
  have hm := h.more hend l h1 h300 (by omega) hrows hin (by omega) tl htl (firstOf (st.next + 1) (ks0 ++ [⟨sg.slot, sg.first, sg.recs ++ [⟨st.next, l, 0⟩]⟩]))
  have hn := hl1.next_ (st.next + 1)
  have hw2 := went_next hMq hl1 (fun _ _ => trivial) hw1 (st.next + 1)
  have hpl := puts_len s (st.place + sg.slot * 8 + sg.text.length / 53) (sg.first * 8 + sg.text.length / 53) (tl ++ putT l) (chunks (tl ++ putT l).length)
  have hxl : (tl ++ putT l).length = sg.text.length % 53 + (putT l).length := by rw [List.length_append, htll]
  have hch : chunks (tl ++ putT l).length ≤ 9 := by rw [hxl]; unfold chunks; omega
  have hch8 : sg.text.length / 53 + chunks (tl ++ putT l).length ≤ 8 := by rw [hxl]; unfold chunks; omega
  have hsl := hg.slot
  have elen : (ks0 ++ [sg]).length = (ks0 ++ [(⟨sg.slot, sg.first, sg.recs ++ [⟨st.next, l, 0⟩]⟩ : Seg)]).length := by simp
  rw [elen] at hn
  refine ⟨st.next, F', Fs', _, st.gone, _, st.next + 1, rfl, hd1.keep ((Keeps.refl _ w1).setCell (.inr fun hb => hw1.ap.r q hl1.mq hb) _), ⟨_, b0, _, tl', K, T', Es', hn, hm, .inr ⟨ks0, _, rfl, ?_, ?_, ?_⟩, rfl⟩, Nat.le_refl _, Nat.le_refl _, by omega, hpl.1, fun i hi => ?_, by rw [hpl.2]; omega, hw2.ap, hw2.k, hw2.f1, hw2.f2, hw2.f3, hw2.f4⟩
  ·show left - (putT l).length = 424 - (strm (sg.recs ++ [_])).length
   rw [strm_snoc, List.length_append]
   have : (strm sg.recs).length = sg.text.length := rfl
   show left - (putT l).length = 424 - ((strm sg.recs).length + (putT l).length)
   omega
  ·rw [htl']
   show (tl ++ putT l).drop _ = (strm (sg.recs ++ [_])).drop ((strm (sg.recs ++ [_])).length / 53 * 53)
   rw [strm_snoc]
   exact tail_drop sg.text (putT l) tl htl
  ·show st.next + 1 = sg.first + (sg.recs ++ [_]).length
   rw [List.length_append, hend]; rfl
  ·rw [puts_now s _ _ _ _ hrows (by have := hg.first; omega) (by omega), if_neg]
   intro hh
   exact hi ⟨by omega, by omega⟩
 ·have hlt : left < (putT l).length := by
   rcases htip with ⟨e, -, -⟩ | ⟨k0, sg, e1, e2, e3, e4⟩
   ·omega
   ·refine Classical.byContradiction fun hn => hfit ⟨k0, sg, e1, e2, e3, e4, by omega⟩
  have hle : left ≤ 424 := by
   rcases htip with ⟨e, -, -⟩ | ⟨k0, sg, e1, e2, e3, e4⟩ <;> omega
  have hcost : ∀ ks0 sg, ks = ks0 ++ [sg] → 461 ≤ costs sg.recs + costs [⟨st.next, l, 0⟩] := fun ks0 sg e => by
   have hc1 : costs [(⟨st.next, l, 0⟩ : LRec)] = l.length + 60 := by simp [costs, LRec.cost]
   rcases htip with ⟨-, -, e2⟩ | ⟨k0, sg', e1, e2, e3, e4⟩
   ·have := e2 ks0 sg e; omega
   ·have hh := List.append_inj_right' (e.symm.trans e1) rfl
    injection hh with hh _
    subst hh
    have hmem : sg ∈ ks := by rw [e]; simp
    have hok := (hgood sg hmem).ok
    have h2 := strm_costs sg.recs fun r hr => (hok.one r hr).2
    have h3 := List.length_pos_iff.2 (h.ch.full sg hmem)
    have : (strm sg.recs).length = sg.text.length := rfl
    omega
  have hslt : (b0 + ks.length) % st.segs < st.segs := Nat.mod_lt _ (by omega)
  refine (lappend_new w hT q Fs st.dev st.place st.segs ks _ left st.next tl K T Es hl F s hd ha hTM (decide (ks.length = st.segs)) (h.ch.turn (by omega)) A c G l hr h1 h300 hlc hcm hTS hlt hle (by omega) hslt hs.2 hin (by omega) hcalls h.next.1 (by omega) ⟨st.next, l, 0⟩ rfl).mono ?_
  rintro e w' ⟨rfl, w0, F1, Fs1, K1, hw0, w1, ⟨F', Fs', T', tl', Es', hd1, htl', hl1, hw1⟩, rfl⟩
  have hz : endAt ([] : List LRec) ([] : List LRec).length / 53 = 0 := by simp [endAt, strm]
  have hd1 : DAt w1 st.dev F' (((s.write (st.place + (b0 + ks.length) % st.segs * 8) (encL (st.next * 8) [])).flush).puts (st.place + (b0 + ks.length) % st.segs * 8 + 0) (st.next * 8 + 0) (putT l) (chunks (putT l).length)) := by
   have hh : DAt w1 st.dev F' (((s.write (st.place + (b0 + ks.length) % st.segs * 8) (encL (st.next * 8) [])).flush).puts (st.place + (b0 + ks.length) % st.segs * 8 + endAt ([] : List LRec) ([] : List LRec).length / 53) (st.next * 8 + endAt ([] : List LRec) ([] : List LRec).length / 53) ([] ++ putT l) (chunks ([] ++ putT l).length)) := hd1
   rw [hz, List.nil_append] at hh
   exact hh
  have hm := h.fresh l h1 h300 hrows hin (by omega) hcost (firstOf (st.next + 1) (goes (decide (ks.length = st.segs)) ks ++ [⟨(b0 + ks.length) % st.segs, st.next, [⟨st.next, l, 0⟩]⟩]))
  have hn := hl1.next_ (st.next + 1)
  have hw2 := went_next hMq hl1 (fun _ _ => trivial) (hw0.trans hw1) (st.next + 1)
  have hl2 : ((s.write (st.place + (b0 + ks.length) % st.segs * 8) (encL (st.next * 8) [])).flush).now.length = s.now.length := by rw [flush_now]; simp [SDev.write]
  have hr2 : ∀ r ∈ ((s.write (st.place + (b0 + ks.length) % st.segs * 8) (encL (st.next * 8) [])).flush).now, r.length = 64 := write_rows s _ _ (encL_len _ _ (by omega) (by simp)) hrows
  have hpl := puts_len ((s.write (st.place + (b0 + ks.length) % st.segs * 8) (encL (st.next * 8) [])).flush) (st.place + (b0 + ks.length) % st.segs * 8 + 0) (st.next * 8 + 0) (putT l) (chunks (putT l).length)
  have hch : chunks (putT l).length ≤ 8 := by unfold chunks; omega
  have hbn := base_next (decide (ks.length = st.segs)) b0 st.segs ks.length (goes (decide (ks.length = st.segs)) ks).length (by
   by_cases hh : ks.length = st.segs
   ·rw [decide_eq_true hh]; show ks.tail.length = _; rw [List.length_tail]; rfl
   ·rw [decide_eq_false hh]; rfl) (fun hh => by have := of_decide_eq_true hh; omega)
  refine ⟨st.next, F', Fs', _, _, _, st.next + 1, rfl, hd1.keep ((Keeps.refl _ w1).setCell (.inr fun hb => hw1.ap.r q hl1.mq hb) _), ⟨goes (decide (ks.length = st.segs)) ks ++ [⟨(b0 + ks.length) % st.segs, st.next, [⟨st.next, l, 0⟩]⟩], baseN (decide (ks.length = st.segs)) b0 st.segs, 424 - (putT l).length, tl', K1, T', Es', ?_, hm, .inr ⟨goes (decide (ks.length = st.segs)) ks, ⟨(b0 + ks.length) % st.segs, st.next, [⟨st.next, l, 0⟩]⟩, rfl, ?_, ?_, ?_⟩, rfl⟩, Nat.le_add_right _ _, Nat.le_refl _, by omega, hpl.1.trans hl2, fun i hi => ?_, ?_, hw2.ap, hw2.k, hw2.f1, hw2.f2, hw2.f3, hw2.f4⟩
  ·rw [List.length_append, List.length_singleton, hbn]; exact hn
  ·show 424 - (putT l).length = 424 - (strm [_]).length
   simp [strm]
  ·rw [htl']
   show ([] ++ putT l).drop (([] ++ putT l).length / 53 * 53) = (strm [_]).drop ((strm [_]).length / 53 * 53)
   simp [strm]
  ·show st.next + 1 = st.next + [_].length
   rfl
  ·rw [puts_now _ _ _ _ _ hr2 (by have := hnx; omega) (by rw [hl2]; omega), if_neg, flush_now, write_now s _ _ (by omega) (encL_len _ _ (by omega) (by simp)) hrows, if_neg]
   ·intro hh; exact hi ⟨by omega, by omega⟩
   ·intro hh; exact hi ⟨by omega, by omega⟩
  ·rw [hpl.2]
   show s.calls + 1 + 1 + _ ≤ _
   omega
theorem s_flush (w : World) (p q : Nat) (F Fs : Foot) (s : SDev) (st : LSt) (hd : DAt w p F s) (hrep : slogRep w q Fs st s) (hdev : st.dev = p) (ha : Apart F Fs) (hcalls : s.calls ≤ 549755813888) :
  Calls Tryz.prog 46 #[.pointer (some ⟨q, 0, none⟩)] w fun e w' => e = .returned (.int .i64 0) ∧ ∃ (F' Fs' : Foot) (rows : List (List UInt8)) (k : Nat), DAt w' p F' (SDev.still rows k) ∧ slogRep w' q Fs' st (SDev.still rows k) ∧ slogDisk st rows ∧
   rows.length = s.now.length ∧ (∀ i, ¬ st.has i → rows.getD i [] = s.now.getD i []) ∧ k ≤ s.calls + 1000 ∧
   Apart F' Fs' ∧ Keeps (fun b => ¬ F.M b ∧ ¬ Fs.M b) w w' ∧ (∀ b, F'.M b → F.M b ∨ w.heap.size ≤ b) ∧ (∀ b, F'.I b → F.all b ∨ w.heap.size ≤ b) ∧ (∀ b, Fs'.M b → Fs.M b ∨ w.heap.size ≤ b) ∧ (∀ b, Fs'.I b → Fs.all b ∨ w.heap.size ≤ b) := by
 obtain ⟨ks, b0, left, tl, K, T, Es, hl, h, htip, hfst⟩ := hrep
 have hlt := hl.lt
 ·subst hdev
  refine (lflush_any w q Fs st.dev st.place st.segs ks _ left st.next tl K T Es hl F s hd (by omega)).mono ?_
  rintro e w' ⟨rfl, F', hd', hst⟩
  exact ⟨rfl, F', Fs, s.now, s.calls + 1, hd', ⟨ks, b0, left, tl, K, T, Es, hl.keep (hst.other ha), h, htip, hfst⟩, ⟨ks, b0, h⟩, rfl, fun _ _ => rfl, by omega, hst.apart ha hlt, hst.keeps.mono fun b _ hb => hb.1, hst.m, hst.i, fun b hb => .inl hb, fun b hb => .inl (.inr hb)⟩
theorem s_read (w : World) (q : Nat) (F Fs : Foot) (s : SDev) (st : LSt) (hd : DAt w st.dev F s) (hrep : slogRep w q Fs st s) (hT : Taken w) (hin : st.place + 8 * st.segs ≤ s.now.length) (x : Nat) (l : List UInt8) (hx : (x, l) ∈ st.recs) :
  Calls Tryz.prog 85 #[.pointer (some ⟨q, 0, none⟩), .int .i64 (x : Int)] w fun e w' => ∃ A c, e = .returned (.tuple #[.slice A l.length c, .int .i64 0]) ∧ l.length ≤ c ∧ c ≤ maxLen ∧ Row w' A (fun b => w.heap.size ≤ b ∧ b < w'.heap.size) (bcells l) ∧ Mine w' .u8 A l.length ∧ Keeps (fun _ => True) w w' := by
 obtain ⟨ks, b0, left, tl, K, T, Es, hl, h, htip, hfst⟩ := hrep
 have hsm := hd.ok.small
 unfold LSt.recs at hx
 rw [h.hist] at hx
 obtain ⟨r, hr, hrk⟩ := List.mem_map.1 hx
 obtain ⟨sg, hsg, hr⟩ := List.mem_flatMap.1 hr
 obtain ⟨t, ht, hst⟩ := List.getElem_of_mem hsg
 obtain ⟨j, hj, hrj⟩ := List.getElem_of_mem hr
 have hp := (h.ch.ok sg hsg).pos j hj
 rw [hrj] at hp
 have hk : r.pos = x ∧ r.body = l := by
  unfold LRec.key at hrk
  injection hrk with e1 e2
  exact ⟨e1, e2⟩
 refine (lread_any w hT q Fs st.dev st.place st.segs ks _ left st.next tl K T Es hl F s hd h.good h.ch.rise h.segs.2 hin t ht sg hst j hj (x : Int) (by rw [← hk.1, hp])).mono ?_
 rintro e w' ⟨v, rfl, ⟨A, c, rfl, h1, h2, h3, h4⟩, hkp⟩
 rw [hrj, hk.2] at h1 h3 h4
 rw [hrj, hk.2]
 exact ⟨A, c, rfl, h1, h2, h3, h4, hkp⟩
def theSlog : SlogOK where
 T := Taken
 tk := fun h hk => h.keep hk
 rep := slogRep
 disk := slogDisk
 wf := fun ⟨_, _, _, _, _, _, _, _, h, _, hf⟩ => h.ok hf
 lt := fun ⟨_, _, _, _, _, _, _, hl, _⟩ => hl.lt
 keep := fun ⟨ks, b0, left, tl, K, T, Es, hl, h⟩ hk => ⟨ks, b0, left, tl, K, T, Es, hl.keep hk, h⟩
 other := fun ⟨ks, b0, left, tl, K, T, Es, hl, h, ht⟩ _ ho => ⟨ks, b0, left, tl, K, T, Es, hl, h.other ho, ht⟩
 diskKeep := fun ⟨ks, b0, h⟩ _ ho => ⟨ks, b0, h.other ho⟩
 openNew := fun w p F s hd hT i n h3 hn hin hb => s_openNew w p F s hd hT i n h3 hn hin hb
 openOld := fun w p F s st hd hT hD hin hnx => s_openOld w p F s st hd hT hD hin hnx
 append := fun W w p q F Fs s st hd hrep hdev ha hT hk hF hFs hin hcalls hnx A c G l hr _ _ hlc hcm h1 h300 => s_append W w p q F Fs s st hd hrep hdev ha hT hk hF hFs hin hcalls hnx A c G l hr hlc hcm h1 h300
 flush := fun W w p q F Fs s st hd hrep hdev ha _ _ _ _ _ hcalls => s_flush w p q F Fs s st hd hrep hdev ha hcalls
 read := fun w p q F Fs s st hd hrep hdev _ hT hin x l hx => by
  subst hdev
  exact s_read w q F Fs s st hd hrep hT hin x l hx
 all := fun w p q F Fs s st hd hrep hdev _ hT hin => by
  subst hdev
  obtain ⟨ks, b0, left, tl, K, T, Es, hl, h, htip, hfst⟩ := hrep
  refine (lall_any w hT q Fs st.dev st.place st.segs ks _ left st.next tl K T Es hl F s hd h.good h.segs.2 hin h.ch.len).mono ?_
  rintro e w' ⟨v, rfl, hrr, hk⟩
  have e : st.recs = (ks.flatMap Seg.recs).map LRec.key := by unfold LSt.recs; rw [h.hist]
  rw [← e] at hrr
  obtain ⟨A, c, rfl, hA⟩ := recs_at hrr
  exact ⟨A, c, rfl, hA, hk⟩
 firstIs := fun w q Fs s st ⟨ks, b0, left, tl, K, T, Es, hl, h, htip, hfst⟩ _ => by
  refine (lfirst_any w q Fs st.dev st.place st.segs ks _ left st.next tl K T Es hl).mono ?_
  rintro e w' ⟨rfl, rfl⟩
  refine ⟨?_, Keeps.refl _ _⟩
  rw [hfst]
  cases ks <;> rfl
 nextIs := fun w q Fs s st ⟨ks, b0, left, tl, K, T, Es, hl, h, htip, hfst⟩ _ => by
  refine (lnext_any w q Fs st.dev st.place st.segs ks _ left st.next tl K T Es hl).mono ?_
  rintro e w' ⟨rfl, rfl⟩
  exact ⟨rfl, Keeps.refl _ _⟩
end Go.Proofs.YticophaepapjoaaGreatDoor
