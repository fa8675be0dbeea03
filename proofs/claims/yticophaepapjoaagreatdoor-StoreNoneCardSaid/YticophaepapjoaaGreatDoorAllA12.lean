/-
  IxTab, IxMem, IxHash, ItemCut, ItemTake, Unfr, ItemMade, FlOpen, FlNil, TakeNext, SlgMath, SlgChunk: texts of mine, joined.
-/
import Derived.Test.YticophaepapjoaaGreatDoorAllA08
import Derived.Test.YticophaepapjoaaGreatDoorAllA00
import Derived.Test.YticophaepapjoaaGreatDoorAllA02
import Derived.Lib.SmallJoins
import Derived.Lib.Hide
import Derived.BigQuiet
import Derived.Test.YticophaepapjoaaGreatDoorAllA11
import Derived.Test.YticophaepapjoaaGreatDoorAllA01
import Derived.WalkSpells
import Derived.Deep.RegionWith
import Derived.Test.YticophaepapjoaaGreatDoorWords
import Derived.Test.YticophaepapjoaaGreatDoorAllA10
import Derived.Test.YticophaepapjoaaGreatDoorAllA04
import Derived.RangeFuncBox
import Derived.RangeFuncLeaves
import Derived.RangeFuncNested
import Derived.RangeFuncBound
import Derived.RangeFuncCalls
import Derived.Shelf.Abstract
import Derived.Shelf.RegionOpen
import Derived.OwnWalkIn
import Derived.TacticsInMore
import Derived.LoopNIn
import Derived.LoopIn
import Derived.Lib.MinMax
namespace Go.Proofs.YticophaepapjoaaGreatDoor
open Go Go.RowKit
structure TabOk (h : ByteArray → Nat) (T : Tab) (n : Nat) (st : IxSt) : Prop where
 perm : (ents T n).Perm st
 nd : (st.map (·.1)).Nodup
 hash : ∀ i, i < n → (T i).full = true → (T i).hash = (h (T i).key : Int)
 path : ∀ i, i < n → (T i).full = true → ∀ d, d ≤ way n (h (T i).key % n) i → (T (nx n (h (T i).key % n) d)).full = true
 room : st.length < n
section
variable {h : ByteArray → Nat} {T : Tab} {n i k d e f : Nat} {st : IxSt} {key : ByteArray} {p : Int}
theorem TabOk.pos (H : TabOk h T n st) : 0 < n := by have := H.room; omega
theorem TabOk.nde (H : TabOk h T n st) : ((ents T n).map (·.1)).Nodup := (H.perm.map (·.1)).nodup_iff.2 H.nd
theorem TabOk.free (H : TabOk h T n st) : ∃ f, f < n ∧ (T f).full = false := free_slot (by rw [H.perm.length_eq]; exact H.room)
theorem TabOk.of_perm {st' : IxSt} (H : TabOk h T n st) (hp : st.Perm st') : TabOk h T n st' :=
 ⟨H.perm.trans hp, (hp.map (·.1)).nodup_iff.1 H.nd, H.hash, H.path, by rw [← hp.length_eq]; exact H.room⟩
structure Seen (h : ByteArray → Nat) (T : Tab) (n : Nat) (key : ByteArray) (d i : Nat) : Prop where
 dn : d < n
 at_ : i = nx n (h key % n) d
 full : ∀ e, e < d → (T (nx n (h key % n) e)).full = true
 none : ∀ e, e < d → (T (nx n (h key % n) e)).key ≠ key
theorem Seen.start (hn : 0 < n) (key : ByteArray) : Seen h T n key 0 (h key % n) :=
 ⟨hn, (nx_zero (Nat.mod_lt _ hn)).symm, fun _ he => by omega, fun _ he => by omega⟩
theorem Seen.lt (S : Seen h T n key d i) : i < n := by
 rw [S.at_]
 exact nx_lt (Nat.mod_lt _ (by have := S.dn; omega)) (by have := S.dn; omega)
theorem Seen.way (S : Seen h T n key d i) : way n (h key % n) i = d := by
 rw [S.at_]
 exact way_nx (Nat.mod_lt _ (by have := S.dn; omega)) S.dn
theorem Seen.next (S : Seen h T n key d i) (hf : f < n) (hff : (T f).full = false) (hi : (T i).full = true) (hk : (T i).key ≠ key) : Seen h T n key (d + 1) (nx n i 1) := by
 have hn : 0 < n := by omega
 have hm := Nat.mod_lt (h key) hn
 have hd : d + 1 < n := by
  refine Classical.byContradiction fun hh => ?_
  have hw := way_lt hm hf
  have hx := nx_way hm hf
  rcases Nat.lt_or_ge (Go.Proofs.YticophaepapjoaaGreatDoor.way n (h key % n) f) d with h1 | h1
  ·have := S.full _ h1
   rw [hx, hff] at this; cases this
  ·have : Go.Proofs.YticophaepapjoaaGreatDoor.way n (h key % n) f = d := by have := S.dn; omega
   rw [this, ← S.at_] at hx
   rw [hx, hff] at hi; cases hi
 refine ⟨hd, ?_, fun e he => ?_, fun e he => ?_⟩
 ·rw [S.at_, nx_one hm hd]
 ·rcases Nat.lt_or_ge e d with h1 | h1
  ·exact S.full e h1
  ·have : e = d := by omega
   rw [this, ← S.at_]; exact hi
 ·rcases Nat.lt_or_ge e d with h1 | h1
  ·exact S.none e h1
  ·have : e = d := by omega
   rw [this, ← S.at_]; exact hk
theorem Seen.miss (S : Seen h T n key d i) (H : TabOk h T n st) (hi : (T i).full = false) : ixGet st key = Option.none := by
 rw [ixGet_none]
 intro x hx hk
 obtain ⟨j, hj, hfj, rfl⟩ := ents_of (H.perm.symm.subset hx)
 have hk : (T j).key = key := hk
 have hm := Nat.mod_lt (h key) H.pos
 have hp := H.path j hj hfj
 rw [hk] at hp
 rcases Nat.lt_or_ge (Go.Proofs.YticophaepapjoaaGreatDoor.way n (h key % n) j) d with h1 | h1
 ·have := S.none _ h1
  rw [nx_way hm hj] at this
  exact this hk
 ·have := hp d h1
  rw [← S.at_, hi] at this; cases this
theorem TabOk.hit (H : TabOk h T n st) (hi : i < n) (hf : (T i).full = true) (hk : (T i).key = key) : ixGet st key = some (T i).pos := by
 refine ixGet_of H.nd (H.perm.subset ?_)
 rw [← hk]
 exact ents_mem hi hf
theorem TabOk.again (H : TabOk h T n st) (hi : i < n) (hf : (T i).full = true) (p : Int) : TabOk h (setT T i ⟨(T i).key, (T i).hash, p, true⟩) n (ixPut st (T i).key p) := by
 have e1 : ent (T i) = [((T i).key, (T i).pos)] := by simp [ent, hf]
 have h1 : st.Perm (((T i).key, (T i).pos) :: ents (setT T i Sl.zero) n) := by
  have := H.perm.symm.trans (ents_take hi)
  rwa [e1] at this
 have hP : (ents (setT T i ⟨(T i).key, (T i).hash, p, true⟩) n).Perm (ixPut st (T i).key p) := by
  refine (ents_take hi).trans ?_
  rw [setT_at, setT_two]
  exact (ixPut_again h1 H.nd).symm
 have hfull : ∀ j, (setT T i ⟨(T i).key, (T i).hash, p, true⟩ j).full = (T j).full := fun j => by
  unfold setT; split
  ·rename_i e; rw [e, hf]
  ·rfl
 have hkey : ∀ j, (setT T i ⟨(T i).key, (T i).hash, p, true⟩ j).key = (T j).key := fun j => by
  unfold setT; split
  ·rename_i e; rw [e]
  ·rfl
 have hhash : ∀ j, (setT T i ⟨(T i).key, (T i).hash, p, true⟩ j).hash = (T j).hash := fun j => by
  unfold setT; split
  ·rename_i e; rw [e]
  ·rfl
 refine ⟨hP, ixPut_nodup H.nd, fun j hj hfj => ?_, fun j hj hfj d hd => ?_, ?_⟩
 ·rw [hfull] at hfj; rw [hhash, hkey]; exact H.hash j hj hfj
 ·rw [hfull] at hfj; rw [hkey] at hd ⊢; rw [hfull]; exact H.path j hj hfj d hd
 ·have hl := congrArg List.length (ixPut_keys st (T i).key p (by rw [H.hit hi hf rfl]; rfl))
  rw [List.length_map, List.length_map] at hl
  rw [hl]
  exact H.room
theorem TabOk.add (H : TabOk h T n st) (S : ∀ e, e < d → (T (nx n (h key % n) e)).full = true) (hd : d < n) (hi : i = nx n (h key % n) d) (hf : (T i).full = false) (hno : ixGet st key = none) (p : Int) (hroom : st.length + 1 < n) :
  TabOk h (setT T i ⟨key, (h key : Int), p, true⟩) n (st ++ [(key, p)]) := by
 have hm := Nat.mod_lt (h key) H.pos
 have hin : i < n := by rw [hi]; exact nx_lt hm (by omega)
 have hfull : ∀ j, (T j).full = true → (setT T i ⟨key, (h key : Int), p, true⟩ j).full = true := fun j hj => by
  unfold setT; split
  ·rfl
  ·exact hj
 refine ⟨?_, ?_, fun j hj hfj => ?_, fun j hj hfj d' hd' => ?_, by simpa using hroom⟩
 ·refine (ents_take hin).trans ?_
  rw [setT_at, setT_two]
  have h1 := ents_take (T := T) hin
  have e0 : ent (T i) = [] := by simp [ent, hf]
  rw [e0, List.nil_append] at h1
  refine List.Perm.trans (List.Perm.append_left _ (h1.symm.trans H.perm)) ?_
  exact List.perm_append_comm
 ·have := ixPut_nodup (k := key) (p := p) H.nd
  rwa [ixPut_new hno] at this
 ·by_cases e : j = i
  ·subst e; rw [setT_at]
  ·rw [setT_ne _ _ e] at hfj ⊢; exact H.hash j hj hfj
 ·by_cases e : j = i
  ·subst e
   rw [setT_at] at hd' ⊢
   have hw : way n (h key % n) j = d := by rw [hi]; exact way_nx hm hd
   have hd' : d' ≤ way n (h key % n) j := hd'
   show (setT T j _ (nx n (h key % n) d')).full = true
   rcases Nat.lt_or_ge d' d with h1 | h1
   ·exact hfull _ (S d' h1)
   ·have : d' = d := by omega
    rw [this, ← hi, setT_at]
  ·rw [setT_ne _ _ e] at hfj hd' ⊢
   exact hfull _ (H.path j hj hfj d' hd')
structure Hole (h : ByteArray → Nat) (T : Tab) (n i k : Nat) (st : IxSt) : Prop where
 hi : i < n
 hk : k < n
 ik : i ≠ k
 stale : (T i).full = true
 perm : (ents (setT T i Sl.zero) n).Perm st
 nd : (st.map (·.1)).Nodup
 hash : ∀ j, j < n → (T j).full = true → (T j).hash = (h (T j).key : Int)
 path : ∀ j, j < n → (T j).full = true → j ≠ i → ∀ d, d ≤ way n (h (T j).key % n) j → (T (nx n (h (T j).key % n) d)).full = true
 seg : ∀ j, j < n → (T j).full = true → j ≠ i → way n i j < way n i k → way n (h (T j).key % n) j < way n i j
 full : ∀ e, e < way n i k → (T (nx n i e)).full = true
theorem Hole.start (H : TabOk h T n st) (hi : i < n) (hf : (T i).full = true) : Hole h T n i (nx n i 1) (ixDrop st (T i).key) := by
 obtain ⟨f, hf1, hf2⟩ := H.free
 have hfi : f ≠ i := fun e => by rw [e, hf] at hf2; cases hf2
 have hn : 1 < n := by omega
 have hw : way n i (nx n i 1) = 1 := way_nx hi hn
 have e1 : ent (T i) = [((T i).key, (T i).pos)] := by simp [ent, hf]
 have h1 : st.Perm (((T i).key, (T i).pos) :: ents (setT T i Sl.zero) n) := by
  have := H.perm.symm.trans (ents_take hi)
  rwa [e1] at this
 refine ⟨hi, nx_lt hi (by omega), ?_, hf, ?_, ixDrop_nodup H.nd, H.hash, fun j hj hfj _ => H.path j hj hfj, fun j hj hfj hji hlt => ?_, fun e he => ?_⟩
 ·have := nx_c n i 1; omega
 ·refine List.Perm.trans ?_ (ixDrop_perm h1).symm
  rw [ixDrop_cons ((h1.map (·.1)).nodup_iff.1 H.nd)]
 ·rw [hw] at hlt
  have h2 := way_c n i j
  omega
 ·rw [hw] at he
  have : e = 0 := by omega
  rw [this, nx_zero hi]; exact hf
theorem Hole.far (H : Hole h T n i k st) (hfn : f < n) (hff : (T f).full = false) (hk : (T k).full = true) : way n i k + 1 < n ∧ way n i (nx n k 1) = way n i k + 1 := by
 have hw := way_lt H.hi H.hk
 have hx := nx_way H.hi H.hk
 have h1 : way n i k + 1 < n := by
  refine Classical.byContradiction fun hh => ?_
  have hwf := way_lt H.hi hfn
  rcases Nat.lt_or_ge (way n i f) (way n i k) with h1 | h1
  ·have := H.full _ h1
   rw [nx_way H.hi hfn, hff] at this; cases this
  ·have e : way n i f = way n i k := by omega
   have := nx_way H.hi hfn
   rw [e, hx] at this
   rw [this, hff] at hk; cases hk
 refine ⟨h1, ?_⟩
 have := way_c n i k
 have := nx_c n k 1
 have := way_c n i (nx n k 1)
 have := H.hi
 have := H.hk
 omega
theorem Hole.stay (H : Hole h T n i k st) (hfn : f < n) (hff : (T f).full = false) (hk : (T k).full = true) (hno : way n (h (T k).key % n) k < way n i k) : Hole h T n i (nx n k 1) st := by
 obtain ⟨h1, h2⟩ := H.far hfn hff hk
 refine ⟨H.hi, nx_lt H.hk (by omega), ?_, H.stale, H.perm, H.nd, H.hash, H.path, fun j hj hfj hji hlt => ?_, fun e he => ?_⟩
 ·intro e
  rw [← e, way_self] at h2; omega
 ·rw [h2] at hlt
  rcases Nat.lt_or_ge (way n i j) (way n i k) with h3 | h3
  ·exact H.seg j hj hfj hji h3
  ·have e : way n i j = way n i k := by omega
   have e2 : j = k := by rw [← nx_way H.hi hj, e, nx_way H.hi H.hk]
   subst e2
   exact hno
 ·rw [h2] at he
  rcases Nat.lt_or_ge e (way n i k) with h3 | h3
  ·exact H.full e h3
  ·have : e = way n i k := by omega
   rw [this, nx_way H.hi H.hk]; exact hk
theorem Hole.move (H : Hole h T n i k st) (hfn : f < n) (hff : (T f).full = false) (hk : (T k).full = true) (hyes : way n i k ≤ way n (h (T k).key % n) k) : Hole h (setT T i (T k)) n k (nx n k 1) st := by
 have hn : 0 < n := by omega
 have hfull : ∀ j, (setT T i (T k) j).full = (T j).full := fun j => by
  unfold setT; split
  ·rename_i e; rw [e, H.stale, hk]
  ·rfl
 have hfk : f ≠ k := fun e => by rw [e, hk] at hff; cases hff
 have hn1 : 1 < n := by have := H.hk; omega
 have hw1 : way n k (nx n k 1) = 1 := way_nx H.hk hn1
 have hki : k ≠ i := Ne.symm H.ik
 refine ⟨H.hk, nx_lt H.hk (by omega), ?_, by rw [hfull]; exact hk, ?_, H.nd, fun j hj hfj => ?_, fun j hj hfj hjk d hd => ?_, fun j hj hfj hjk hlt => ?_, fun e he => ?_⟩
 ·have := nx_c n k 1; have := H.hk; omega
 ·refine List.Perm.trans ?_ H.perm
  have p1 := ents_take (T := setT (setT T i (T k)) k Sl.zero) H.hi
  have p2 := ents_take (T := setT T i Sl.zero) H.hk
  have e1 : setT (setT T i (T k)) k Sl.zero i = T k := by rw [setT_ne _ _ H.ik, setT_at]
  have e2 : setT T i Sl.zero k = T k := setT_ne _ _ hki
  have e3 : setT (setT (setT T i (T k)) k Sl.zero) i Sl.zero = setT (setT T i Sl.zero) k Sl.zero := by
   funext j; unfold setT
   by_cases a : j = i
   ·have : j ≠ k := fun b => hki (b.symm.trans a)
    simp [a, H.ik]
   ·simp [a]
  rw [e1, e3] at p1
  rw [e2] at p2
  exact p1.trans p2.symm
 ·by_cases e : j = i
  ·subst e; rw [setT_at]; exact H.hash k H.hk hk
  ·rw [setT_ne _ _ e] at hfj ⊢; exact H.hash j hj hfj
 ·rw [hfull]
  by_cases e : j = i
  ·subst e
   rw [setT_at] at hd ⊢
   refine H.path k H.hk hk hki d ?_
   have hm := Nat.mod_lt (h (T k).key) hn
   generalize h (T k).key % n = m at hm hd hyes ⊢
   have := way_c n m j
   have := way_c n m k
   have := way_c n j k
   have := H.hi
   have := H.hk
   omega
  ·rw [hfull] at hfj
   rw [setT_ne _ _ e] at hd ⊢
   exact H.path j hj hfj e d hd
 ·rw [hw1] at hlt
  have := way_c n k j
  have := H.hk
  omega
 ·rw [hw1] at he
  have : e = 0 := by omega
  rw [this, nx_zero H.hk, hfull]; exact hk
theorem Hole.done (H : Hole h T n i k st) (hk : (T k).full = false) : TabOk h (setT T i Sl.zero) n st := by
 have hn : 0 < n := by have := H.hi; omega
 have hf : ∀ j, (setT T i Sl.zero j).full = true → j ≠ i ∧ (T j).full = true := fun j hj => by
  unfold setT at hj
  split at hj
  ·cases hj
  ·rename_i e; exact ⟨e, hj⟩
 refine ⟨H.perm, H.nd, fun j hj hfj => ?_, fun j hj hfj d hd => ?_, ?_⟩
 ·obtain ⟨e, h1⟩ := hf j hfj
  rw [setT_ne _ _ e]; exact H.hash j hj h1
 ·obtain ⟨e, h1⟩ := hf j hfj
  rw [setT_ne _ _ e] at hd ⊢
  have hp := H.path j hj h1 e
  have hm := Nat.mod_lt (h (T j).key) hn
  by_cases hx : nx n (h (T j).key % n) d = i
  ·exfalso
   have hs := H.seg j hj h1 e
   generalize h (T j).key % n = m at hp hs hd hx hm
   have hlt : way n i j < way n i k := by
    refine Classical.byContradiction fun hh => ?_
    have hlast := hp (d + way n i k) (by
     have := way_c n m j
     have := way_c n i j
     have := nx_c n m d
     have := H.hi
     omega)
    have e3 : nx n m (d + way n i k) = k := by
     have := nx_c n m (d + way n i k)
     have := way_c n i k
     have := way_c n i j
     have := way_c n m j
     have := nx_c n m d
     have := H.hi
     have := H.hk
     omega
    rw [e3, hk] at hlast; cases hlast
   have := hs hlt
   have := way_c n m j
   have := way_c n i j
   have := nx_c n m d
   have := H.hi
   omega
  ·rw [setT_ne _ _ hx]; exact hp d hd
 ·rw [← H.perm.length_eq]
  refine Classical.byContradiction fun hh => ?_
  have h1 := ents_len (setT T i Sl.zero) n
  have h2 := (ents_take (T := setT T i Sl.zero) H.hi).length_eq
  rw [setT_at, setT_two] at h2
  have h3 := (ents_take (T := setT (setT T i Sl.zero) k ⟨⟨#[]⟩, 0, 0, true⟩) H.hk).length_eq
  rw [setT_at, setT_two] at h3
  have h4 := ents_len (setT (setT T i Sl.zero) k ⟨⟨#[]⟩, 0, 0, true⟩) n
  have h5 := (ents_take (T := setT T i Sl.zero) H.hk).length_eq
  rw [setT_ne _ _ (Ne.symm H.ik)] at h5
  simp [ent, hk] at h5 h3
  omega
end
end Go.Proofs.YticophaepapjoaaGreatDoor
namespace Go.Proofs.YticophaepapjoaaGreatDoor
open Go Go.RowKit Go.Joins
def tabV (T : Tab) (m : Nat) : Value :=
 if m % 4 = 0 then .string (T (m / 4)).key else if m % 4 = 1 then .int .u64 (T (m / 4)).hash else if m % 4 = 2 then .int .i64 (T (m / 4)).pos else .bool (T (m / 4)).full
structure TabAt (w : World) (g n : Nat) (T : Tab) : Prop where
 cell : ∀ m, m < 4 * n → w.cell? ⟨g, m, none⟩ = some (tabV T m)
 ice : ∀ m, w.frozen? ⟨g, m, none⟩ = false
 lt : g < w.heap.size
section
variable {w w' : World} {g n i : Nat} {T : Tab} {G : Nat → Prop}
theorem TabAt.c0 (h : TabAt w g n T) (hi : i < n) : w.cell? ⟨g, i * 4, none⟩ = some (.string (T i).key) := by
 have := h.cell (i * 4) (by omega)
 rwa [tabV, if_pos (by omega), Nat.mul_div_cancel _ (by decide)] at this
theorem TabAt.c1 (h : TabAt w g n T) (hi : i < n) : w.cell? ⟨g, i * 4 + 1, none⟩ = some (.int .u64 (T i).hash) := by
 have := h.cell (i * 4 + 1) (by omega)
 rwa [tabV, if_neg (by omega), if_pos (by omega), show (i * 4 + 1) / 4 = i by omega] at this
theorem TabAt.c2 (h : TabAt w g n T) (hi : i < n) : w.cell? ⟨g, i * 4 + 2, none⟩ = some (.int .i64 (T i).pos) := by
 have := h.cell (i * 4 + 2) (by omega)
 rwa [tabV, if_neg (by omega), if_neg (by omega), if_pos (by omega), show (i * 4 + 2) / 4 = i by omega] at this
theorem TabAt.c3 (h : TabAt w g n T) (hi : i < n) : w.cell? ⟨g, i * 4 + 3, none⟩ = some (.bool (T i).full) := by
 have := h.cell (i * 4 + 3) (by omega)
 rwa [tabV, if_neg (by omega), if_neg (by omega), if_neg (by omega), show (i * 4 + 3) / 4 = i by omega] at this
theorem TabAt.keep (h : TabAt w g n T) (hk : Keeps G w w') (hg : G g) : TabAt w' g n T :=
 ⟨fun m hm => hk.cell (h.cell m hm) hg, fun m => by rw [hk.frozen (p := ⟨g, m, none⟩) h.lt hg]; exact h.ice m, Nat.lt_of_lt_of_le h.lt hk.size⟩
theorem TabAt.store (h : TabAt w g n T) (hi : i < n) (s : Sl) : TabAt ((((w.setCell ⟨g, i * 4, none⟩ (.string s.key)).setCell ⟨g, i * 4 + 1, none⟩ (.int .u64 s.hash)).setCell ⟨g, i * 4 + 2, none⟩ (.int .i64 s.pos)).setCell ⟨g, i * 4 + 3, none⟩ (.bool s.full)) g n (setT T i s) := by
 refine ⟨fun m hm => ?_, fun m => ?_, by simpa using h.lt⟩
 ·have oth : ∀ (W : World) (a b : Nat) (v : Value), a ≠ b → (W.setCell ⟨g, a, none⟩ v).cell? ⟨g, b, none⟩ = W.cell? ⟨g, b, none⟩ := fun W a b v hab => World.cell?_setCell_other _ _ _ _ (fun e => hab (by injection e))
  have h0 := h.c0 hi
  have h1 := h.c1 hi
  have h2 := h.c2 hi
  have h3 := h.c3 hi
  by_cases e : m / 4 = i
  ·have hT : setT T i s (m / 4) = s := by rw [e]; exact setT_at T i s
   unfold tabV
   rw [hT]
   by_cases e0 : m % 4 = 0
   ·obtain rfl : m = i * 4 := by omega
    rw [if_pos e0, oth _ (i * 4 + 3) _ _ (by omega), oth _ (i * 4 + 2) _ _ (by omega), oth _ (i * 4 + 1) _ _ (by omega)]
    exact World.cell?_setCell_same _ _ _ h0
   ·rw [if_neg e0]
    by_cases e1 : m % 4 = 1
    ·obtain rfl : m = i * 4 + 1 := by omega
     rw [if_pos e1, oth _ (i * 4 + 3) _ _ (by omega), oth _ (i * 4 + 2) _ _ (by omega)]
     refine World.cell?_setCell_same (u := .int .u64 (T i).hash) _ _ _ ?_
     rw [oth _ (i * 4) _ _ (by omega)]; exact h1
    ·rw [if_neg e1]
     by_cases e2 : m % 4 = 2
     ·obtain rfl : m = i * 4 + 2 := by omega
      rw [if_pos e2, oth _ (i * 4 + 3) _ _ (by omega)]
      refine World.cell?_setCell_same (u := .int .i64 (T i).pos) _ _ _ ?_
      rw [oth _ (i * 4 + 1) _ _ (by omega), oth _ (i * 4) _ _ (by omega)]; exact h2
     ·obtain rfl : m = i * 4 + 3 := by omega
      rw [if_neg e2]
      refine World.cell?_setCell_same (u := .bool (T i).full) _ _ _ ?_
      rw [oth _ (i * 4 + 2) _ _ (by omega), oth _ (i * 4 + 1) _ _ (by omega), oth _ (i * 4) _ _ (by omega)]; exact h3
  ·rw [oth _ (i * 4 + 3) _ _ (by omega), oth _ (i * 4 + 2) _ _ (by omega), oth _ (i * 4 + 1) _ _ (by omega), oth _ (i * 4) _ _ (by omega), h.cell m hm]
   unfold tabV
   rw [setT_ne _ _ e]
 ·rw [World.frozen?_setCell, World.frozen?_setCell, World.frozen?_setCell, World.frozen?_setCell]; exact h.ice m
end
def IxBlk (w : World) (q : Nat) (V : Value) (c : Nat) : Prop := w.heap[q]? = some (.cells #[V, .int .i64 (c : Int)] 129 (0, 0))
structure IxAt (w : World) (q g n c : Nat) (T : Tab) : Prop where
 blk : IxBlk w q (.slice (some ⟨g, 0, none⟩) n n) c
 tab : TabAt w g n T
 ne : g ≠ q
section
variable {w w' : World} {q g n c i : Nat} {T : Tab} {G : Nat → Prop} {V : Value}
theorem IxBlk.keep (h : IxBlk w q V c) (hk : Keeps G w w') (hq : G q) : IxBlk w' q V c := (hk.block q hq (Array.getElem?_eq_some_iff.1 h).1).trans h
theorem IxBlk.lt (h : IxBlk w q V c) : q < w.heap.size := (Array.getElem?_eq_some_iff.1 h).1
theorem IxBlk.c0 (h : IxBlk w q V c) : w.cell? ⟨q, 0, none⟩ = some V := (cell_of_block h 0).trans rfl
theorem IxBlk.c1 (h : IxBlk w q V c) : w.cell? ⟨q, 1, none⟩ = some (.int .i64 (c : Int)) := (cell_of_block h 1).trans rfl
theorem IxBlk.f0 (h : IxBlk w q V c) (i : Nat) : w.frozen? ⟨q, i, none⟩ = false := unfrozen_of_block h i
theorem IxBlk.set0 (h : IxBlk w q V c) (V' : Value) : IxBlk (w.setCell ⟨q, 0, none⟩ V') q V' c := (block_setCell h V').trans rfl
theorem IxBlk.set1 (h : IxBlk w q V c) (c' : Nat) : IxBlk (w.setCell ⟨q, 1, none⟩ (.int .i64 (c' : Int))) q V c' := (block_setCell h _).trans rfl
theorem IxAt.keep (h : IxAt w q g n c T) (hk : Keeps G w w') (hq : G q) (hg : G g) : IxAt w' q g n c T := ⟨h.blk.keep hk hq, h.tab.keep hk hg, h.ne⟩
end
theorem modN_cast (h n : Nat) : ((h : Int).tmod (n : Int)) = ((h % n : Nat) : Int) := by
 rw [Int.tmod_eq_emod_of_nonneg (by omega)]; rfl
set_option maxRecDepth 100000 in
set_option maxHeartbeats 1000000 in
theorem home_any (w : World) (q g n c : Nat) (T : Tab) (hI : IxAt w q g n c T) (h0 : 0 < n) (hn : n ≤ 1099511627776) (h : Nat) (hh : h < 18446744073709551616) :
  Calls Tryz.prog 100 #[.pointer (some ⟨q, 0, none⟩), .int .u64 (h : Int)] w fun e w' => e = .returned (.int .i64 ((h % n : Nat) : Int)) ∧ w' = w := by
 have c0 := hI.blk.c0
 have hm := modN_cast h n
 have hl := Nat.mod_lt h h0
 obtain ⟨r, hr⟩ : ∃ r, h % n = r := ⟨_, rfl⟩
 rw [hr] at hm hl ⊢
 have e2 : ((h : Int) % (n : Int)) = (r : Int) := by rw [← hr]; rfl
 clear hI hr
 go_enter Tryz.func100, Tryz.ntmps100
 go_wp2_with fail
 go_ret
 exact ⟨rfl, rfl⟩
set_option maxRecDepth 100000 in
set_option maxHeartbeats 1000000 in
theorem ixbehind_any (w : World) (q g n c : Nat) (T : Tab) (hI : IxAt w q g n c T) (i : Nat) (hi : i < n) (hn : n ≤ 1099511627776) :
  Calls Tryz.prog 101 #[.pointer (some ⟨q, 0, none⟩), .int .i64 (i : Int)] w fun e w' => e = .returned (.int .i64 ((nx n i 1 : Nat) : Int)) ∧ w' = w := by
 have c0 := hI.blk.c0
 have hm : (((i : Int) + 1).tmod (n : Int)) = ((nx n i 1 : Nat) : Int) := by
  rw [show (i : Int) + 1 = ((i + 1 : Nat) : Int) by omega, modN_cast]
  congr 1
  rcases nx_c n i 1 with ⟨h1, h2⟩ | ⟨h1, h2⟩
  ·rw [h2, Nat.mod_eq_of_lt h1]
  ·rw [h2, show i + 1 = n by omega, Nat.mod_self]; omega
 have e2 : (((i : Int) + 1) % (n : Int)) = ((nx n i 1 : Nat) : Int) := by rw [← hm, Int.tmod_eq_emod_of_nonneg (by omega)]
 generalize nx n i 1 = r at *
 clear hI
 go_enter Tryz.func101, Tryz.ntmps101
 go_wp2_with fail
 go_ret
 exact ⟨rfl, rfl⟩
set_option maxRecDepth 100000 in
set_option maxHeartbeats 1000000 in
theorem way_any (w : World) (q g n c : Nat) (T : Tab) (hI : IxAt w q g n c T) (i k : Nat) (hi : i < n) (hk : k < n) (hn : n ≤ 1099511627776) :
  Calls Tryz.prog 173 #[.pointer (some ⟨q, 0, none⟩), .int .i64 (i : Int), .int .i64 (k : Int)] w fun e w' => e = .returned (.int .i64 ((way n i k : Nat) : Int)) ∧ Kp w w' := by
 have c0 := hI.blk.c0
 have hm : (((k : Int) - (i : Int) + (n : Int)).tmod (n : Int)) = ((way n i k : Nat) : Int) := by
  rw [show (k : Int) - (i : Int) + (n : Int) = ((k + n - i : Nat) : Int) by omega, modN_cast]
  congr 1
  rcases way_c n i k with ⟨h1, h2⟩ | ⟨h1, h2⟩
  ·rw [h2, show k + n - i = (k - i) + n by omega, Nat.add_mod_right, Nat.mod_eq_of_lt (by omega)]
  ·rw [h2, Nat.mod_eq_of_lt (by omega)]
 have e2 : (((k : Int) - (i : Int) + (n : Int)) % (n : Int)) = ((way n i k : Nat) : Int) := by rw [← hm, Int.tmod_eq_emod_of_nonneg (by omega)]
 generalize way n i k = r at *
 clear hI
 go_enter Tryz.func173, Tryz.ntmps173
 go_wp2_with fail
 go_region
 go_wp2_with fail
 go_ret
 exact ⟨rfl, (Keeps.refl _ _).drew⟩
def hashN (s : ByteArray) : Nat := (partsZ [s]).toNat
theorem hashZ_is (s : ByteArray) : 0 ≤ partsZ [s] ∧ partsZ [s] < 18446744073709551616 := by
 show 0 ≤ endZ _ _ ∧ endZ _ _ < _
 unfold endZ
 exact ⟨stZ_nonneg _, stZ_lt _⟩
theorem hashN_cast (s : ByteArray) : ((hashN s : Nat) : Int) = partsZ [s] := by
 have := hashZ_is s
 unfold hashN; omega
theorem hashN_lt (s : ByteArray) : hashN s < 18446744073709551616 := by
 have := hashZ_is s
 unfold hashN; omega
theorem hash_any (s : ByteArray) (b : Nat) (w : World) (hs : s.size ≤ 1000000) (hc : w.cell? ⟨b, 0, none⟩ = some (.string s)) :
  Calls Tryz.prog 69 #[.slice (some ⟨b, 0, none⟩) 1 1] w fun e w' => e = .returned (.int .u64 ((hashN s : Nat) : Int)) ∧ w' = w := by
 rw [hashN_cast]
 refine (of_any [s] b 0 1 w (show 1 ≤ maxLen by decide) (by intro x hx; simp at hx; rw [hx]; unfold maxLen; omega)
  (fun i hi => by have hi0 : i = 0 := by simpa using hi
                  subst hi0; exact hc)).mono ?_
 rintro e w' ⟨rfl, rfl⟩
 exact ⟨rfl, rfl⟩
theorem src_item (W : World) (x : It) : Src Tryz.prog 4 133 (.slice (some ⟨W.heap.size, 0, none⟩) 1 1) 1 x.cells (W.alloc (.cells #[.string x.key, .string x.val, .int .i64 x.till, .bool x.gone] 40)) :=
 Src.ofSlice _ Tryz.underlying133 ⟨W.heap.size, 0, none⟩ 1 1 x.cells rfl (fun j v hv => by
  rw [WideShapes.add_plain, Nat.zero_add]
  exact (cell_alloc_mark_at W _ _ _ W.heap.size j rfl).trans (by rw [← hv, ← Array.getElem?_toList]; rfl)) (fun v hv => by
  simp only [It.cells, List.mem_cons, List.not_mem_nil, or_false] at hv
  rcases hv with rfl | rfl | rfl | rfl <;> rfl)
end Go.Proofs.YticophaepapjoaaGreatDoor
namespace Go.Proofs.YticophaepapjoaaGreatDoor
open Go Go.RowKit
def Unfr (w : World) (A : Option Addr) (n : Nat) : Prop := ∀ b o, 0 < n → A = some ⟨b, o, none⟩ → ∀ i, w.frozen? ⟨b, i, none⟩ = false
theorem Unfr.own {w : World} {base n size c : Nat} {e : TypeId} {A : Option Addr} {xs : List Value} (h : w.ownsRow base e size (.slice A n c) n xs) : Unfr w A n := fun b o _ ha i => by
 rcases h.2 with ⟨h', _⟩ | ⟨g', cap', cur, h', _, hg, _⟩
 ·injection h' with h'; rw [ha] at h'; cases h'
 ·injection h' with h'
  rw [ha] at h'
  injection h' with h'
  injection h' with h'
  subst h'
  simp [World.frozen?, hg]
end Go.Proofs.YticophaepapjoaaGreatDoor
namespace Go.Proofs.YticophaepapjoaaGreatDoor
open Go Go.RowKit Go.Joins
theorem bytes_ahead {l m : List It} {r : List UInt8} (hl : l.all It.may = true) (hm : m.all It.may = true) (h : bytesOf m = bytesOf l ++ r) : ∃ n, m = l ++ n ∧ r = bytesOf n ∧ n.all It.may = true := by
 induction l generalizing m with
 | nil => exact ⟨m, rfl, by simpa [bytesOf] using h.symm, hm⟩
 | cons x l ih =>
  cases m with
  | nil =>
   have := x.bytes_pos
   rw [bytesOf_cons] at h
   have h2 := congrArg List.length h
   simp only [List.length_append, bytesOf, List.flatMap_nil, List.length_nil] at h2
   omega
  | cons y m =>
   rw [List.all_cons, Bool.and_eq_true] at hl hm
   rw [bytesOf_cons, bytesOf_cons, List.append_assoc] at h
   obtain ⟨rfl, e⟩ := It.bytes_inj hm.1 hl.1 h
   obtain ⟨n, rfl, e2, e3⟩ := ih hl.2 hm.2 e
   exact ⟨n, rfl, e2, e3⟩
theorem own_form4 {w : World} {base n size : Nat} {e : TypeId} {v : Value} {xs : List Value} (h : w.ownsRow base e size v n xs) : ∃ A c, v = .slice A n c := by
 rcases h.2 with ⟨rfl, h0⟩ | ⟨g, cap, cur, rfl, r⟩
 ·exact ⟨none, 0, by rw [h0]⟩
 ·exact ⟨_, _, rfl⟩
set_option maxRecDepth 100000 in
set_option maxHeartbeats 1600000 in
theorem idecode (w : World) (A : Option Addr) (c : Nat) (b : List UInt8) (h : Row w A (fun _ => True) (bcells b)) (hlc : b.length ≤ c) (hcm : c ≤ maxLen) (hl : b.length ≤ 1000000) :
  Calls Tryz.prog 120 #[.slice A b.length c] w fun e w' => Keeps (fun _ => True) w w' ∧
   ((∃ B k l, e = .returned (.tuple #[.slice B l.length k, .int .i64 0]) ∧ l ≠ [] ∧ l.all It.may = true ∧ bytesOf l = b ∧ l.length ≤ k ∧ k ≤ maxLen ∧ ItsAt w' B (fun b => w.heap.size ≤ b ∧ b < w'.heap.size) l ∧ Unfr w' B l.length) ∨
    ((∀ l : List It, l ≠ [] → l.all It.may = true → bytesOf l ≠ b) ∧ ∃ B k, e = .returned (.tuple #[.slice B 0 k, .int .i64 1]))) := by
 unfold maxLen at hcm
 have HH := Lib.hid h
 obtain ⟨n, hn⟩ : ∃ n, b.length = n := ⟨_, rfl⟩
 have HN := Lib.hid hn
 rw [hn] at hlc hl ⊢
 clear hn h
 go_enter Tryz.func120, Tryz.ntmps120
 go_wp2_with fail
 go_loopw [0, 4] (fun s v wr => ∃ (A1 : Option Addr) (m c1 : Nat) (l : List It) (r : List UInt8), s = .slice A1 m c1 ∧ RowKit.Hid (r.length = m) ∧ m ≤ c1 ∧ c1 ≤ c ∧ m ≤ n ∧ RowKit.Hid (b = bytesOf l ++ r) ∧ RowKit.Hid (l.all It.may = true) ∧ RowKit.Hid (Row w A1 (fun _ => True) (bcells r)) ∧
   RowKit.Hid (wr.ownsRow w.heap.size 40 4 v l.length (itCells l)) ∧ RowKit.Hid (Kp w wr)) (fun s _ _ => match s with | .slice _ m _ => m | _ => 0)
 case atStart => exact ⟨A, n, c, [], b, rfl, HN, hlc, Nat.le_refl _, Nat.le_refl _, Lib.hid rfl, Lib.hid rfl, HH, Lib.hid (World.ownsRow_nil _ _ _ _), Lib.hid (Keeps.refl _ _)⟩
 case round =>
  obtain ⟨A1, m, c1, l, r, rfl, hm, hmc, hcc, hmn, hbr, hall, hrow, hown, hkp⟩ := hrel
  have hll : l.length ≤ 1000000 := by
   have h1 := bytesOf_four l
   have h2 := congrArg List.length hbr.out
   rw [List.length_append, HN.out] at h2
   omega
  by_cases hpos : 0 < m
  ·have HD := Lib.hid (show Calls Tryz.prog 152 #[.slice A1 m c1] wr fun e w' => Kp wr w' ∧ DecPost r e from by
    have := idecode1 wr A1 c1 r (hrow.out.keep hkp.out) (by rw [hm.out]; exact hmc) (by unfold maxLen; omega) (by rw [hm.out]; omega)
    rw [hm.out] at this
    exact this)
   have t1 : decide ((0 : Int) < (m : Int)) = true := by simp; omega
   go_wp2_with fail
   refine HD.out.mono ?_
   rintro e w1 ⟨hk1, (⟨x, r2, rfl, hx, hr2⟩ | ⟨er, he0, her, rfl, hno⟩)⟩
   ·have HX := Lib.hid hx
    have HR2 := Lib.hid hr2
    have hbl := It.bytes_len hx
    have hbp := x.bytes_pos
    have hxm := hm.out
    rw [hr2, List.length_append] at hxm
    obtain ⟨z, hz⟩ : ∃ z, x.bytes.length = z := ⟨_, rfl⟩
    have HZ := Lib.hid hz
    rw [hz] at hbl hbp hxm
    obtain ⟨z2, hz2⟩ : ∃ z2, r2.length = z2 := ⟨_, rfl⟩
    have HZ2 := Lib.hid hz2
    rw [hz2] at hxm
    rw [hz]
    have hzm : z ≤ m := by omega
    have hz2m : m - z = z2 := by omega
    have HK1 := Lib.hid (hkp.out.trans hk1)
    have HOWN := Lib.hid (hk1.own hown.out fun _ _ => trivial)
    have hsrc := src_item (w1.alloc (.cells #[.string x.key, .string x.val, .int .i64 x.till, .bool x.gone] 40)) x
    rw [show (w1.alloc (.cells #[.string x.key, .string x.val, .int .i64 x.till, .bool x.gone] 40)).heap.size = w1.heap.size + 1 by simp] at hsrc
    have HSRC := Lib.hid hsrc
    clear hsrc
    obtain ⟨g, o, rfl, -, -⟩ := hrow.out.at_ (k := 0) (by rw [bcells_len, hm.out]; omega)
    have hsz := HK1.out.size
    have hl1 : l.length + 1 ≤ 1000001 := by omega
    obtain ⟨q, hq⟩ : ∃ q, l.length = q := ⟨_, rfl⟩
    have HQ := Lib.hid hq
    rw [hq] at hl1 HOWN
    clear hz hz2 hx hr2 hk1 HD hq hll hown hkp
    go_wp2_with (at_builtin; refine item_elem.list_append rfl (.tmp 19) (.tmp 21) _ rfl rfl ((HOWN.out.alloc _).alloc _) rfl HSRC.out ?c3 ?c4 ?c5 ?_)
    case c3 => unfold maxLen; omega
    case c4 => omega
    case c5 => simp; omega
    intro v3 w3 ho3 hg3 hb3
    have hk3 : Kp w w3 := ((HK1.out.alloc _).alloc _).grown hg3 fun j hj => (HOWN.out.lt j hj).1
    have HK3 := Lib.hid hk3
    have HO3 := Lib.hid (show w3.ownsRow w.heap.size 40 4 v3 (l ++ [x]).length (itCells (l ++ [x])) from by
     rw [itCells_snoc, List.length_append, HQ.out]
     exact ho3)
    have HA3 := Lib.hid (show (l ++ [x]).all It.may = true from by simp [hall.out, HX.out])
    have HB3 := Lib.hid (show b = bytesOf (l ++ [x]) ++ r2 from by rw [bytesOf_snoc, List.append_assoc, ← HR2.out]; exact hbr.out)
    have HD2 := Lib.hid (show r.drop z = r2 from by rw [HR2.out, ← HZ.out]; exact List.drop_left)
    clear hk3 ho3 hg3 hb3 HSRC HOWN HK1
    by_cases hcz : c1 = z
    ·have hmz : m = z := by omega
     subst hcz
     have HMZ := Lib.hid hmz
     clear hmz
     go_wp2_with fail
     go_roundw
     case rel => exact ⟨_, _, _, l ++ [x], r2, rfl, Lib.hid (by have := HZ2.out; have := HMZ.out; omega), by omega, by omega, by omega, HB3, HA3, Lib.hid (by rw [List.eq_nil_of_length_eq_zero (show r2.length = 0 by have := HZ2.out; have := HMZ.out; omega)]; exact Row.nil _ _ _), HO3, HK3⟩
     case measure => have := HMZ.out; simp; omega
    ·have HROW := Lib.hid (cut_row hrow.out hm.out hzm hmc hcz)
     rw [HD2.out] at HROW
     have hnz : ¬ c1 = z := hcz
     have hzc : z ≤ c1 := by omega
     go_wp2_with fail
     go_roundw
     case rel => exact ⟨_, _, _, l ++ [x], r2, rfl, Lib.hid (by have := HZ2.out; omega), by omega, by omega, by omega, HB3, HA3, HROW, HO3, HK3⟩
     case measure => simp; omega
   ·have HNO := Lib.hid hno
    have t2 : ((er : Int) != 0) = true := by simp; omega
    have HK1 := Lib.hid (hkp.out.trans hk1)
    clear hno hk1 HD
    go_wp2_with fail
    go_ret2
    refine ⟨HK1.out.alloc _, .inr ⟨fun l' hne hall' hb' => ?_, none, 0, rfl⟩⟩
    obtain ⟨n', rfl, hr', hn'⟩ := bytes_ahead hall.out hall' (hb'.trans hbr.out)
    cases n' with
    | nil =>
     have := hm.out
     rw [hr'] at this
     simp [bytesOf] at this
     omega
    | cons y n' =>
     rw [List.all_cons, Bool.and_eq_true] at hn'
     exact HNO.out y _ hn'.1 (hr'.trans (bytesOf_cons _ _))
  ·obtain rfl : m = 0 := by omega
   have hr0 : r = [] := List.eq_nil_of_length_eq_zero hm.out
   by_cases hl0 : l = []
   ·have HL0 := Lib.hid hl0
    subst hl0
    obtain ⟨A2, c2, rfl⟩ := own_form4 hown.out
    go_wp2_with fail
    go_ret2
    refine ⟨hkp.out, .inr ⟨fun l' hne hall' hb' => ?_, none, 0, rfl⟩⟩
    have := bytesOf_pos hne
    rw [hb', hbr.out, hr0] at this
    simp [bytesOf] at this
   ·have hlp := List.length_pos_iff.2 hl0
    obtain ⟨g2, c2, rfl, -, -⟩ := hown.out.form hlp
    have HOWN := hown.out
    have t2 : ((l.length : Int) == 0) = false := by simp; omega
    have HL := Lib.hid (own_room HOWN)
    have HI := Lib.hid (ItsAt.of_own HOWN rfl)
    have HU := Lib.hid (Unfr.own HOWN)
    have HL0 := Lib.hid hl0
    have HR0 := Lib.hid hr0
    clear hl0 HOWN hr0
    go_wp2_with fail
    go_ret2
    exact ⟨hkp.out, .inl ⟨_, c2, l, rfl, HL0.out, hall.out, by rw [hbr.out, HR0.out, List.append_nil], HL.out.1, HL.out.2, HI.out, HU.out⟩⟩
def theItems : ItemOK where
 T := fun _ => True
 tk := fun _ _ => trivial
 may := fun w x _ hx => imay w x hx
 live := fun w x now _ hx h1 h2 => ilive w x hx now h1 h2
 encode := fun w A c l _ hA hl hc hn hf => iencode w A c l hA hl hc hn hf
 decode := fun w A c b _ h h1 h2 h3 => (idecode w A c b h h1 h2 h3).mono fun e w' hh => ⟨hh.1, hh.2.imp (fun ⟨B, k, l, e1, e2, e3, e4, e5, e6, e7, _⟩ => ⟨B, k, l, e1, e2, e3, e4, e5, e6, e7⟩) id⟩
structure Lt (S : Slog2) (I : IndexOK) (w wa wb wr : World) (p q lq : Nat) (Fl : Foot) (lst : LSt) (s : SDev) (l : List FRec) (j : Nat) : Prop where
 ex : ∃ (iq : Nat) (Fi : Foot) (ix : IxSt), CAt S I wr p q lq iq Fl Fi 1 lst ix s ∧ IxSays ix (l.take j) j ∧ (∀ b, Fi.all b → w.heap.size ≤ b) ∧ ∀ b, Fi.all b → b < wa.heap.size ∨ wb.heap.size ≤ b
 kp : Kp w wr
 sz : wb.heap.size ≤ wr.heap.size
section
variable {S : Slog2} {I : IndexOK} {w wa wb wr w2 w3 : World} {p q lq : Nat} {Fl : Foot} {lst : LSt} {s : SDev} {l : List FRec} {j : Nat}
theorem Lt.keep (h : Lt S I w wa wb wr p q lq Fl lst s l j) (hk : Kp wr w2) : Lt S I w wa wb w2 p q lq Fl lst s l j := by
 obtain ⟨iq, Fi, ix, hc, hx, h1, h2⟩ := h.ex
 exact ⟨⟨iq, Fi, ix, hc.kp hk, hx, h1, h2⟩, h.kp.trans hk, Nat.le_trans h.sz hk.size⟩
theorem Lt.step (J : ItemOK) (hIT : I.T w) (hJT : J.T w) (hq : w.heap.size ≤ q) (hqa : q < wa.heap.size) (h : Lt S I w wa wb wr p q lq Fl lst s l j) (hj : j < l.length) (hjs : j ≤ 32768) (hm : ∀ x, l[j].2 = some x → x.may = true) (hpo : l[j].1 < 9223372036854775808) (A : Option Addr) (m c : Nat) (hr : Row wr A (fun _ => True) (bcells (bodyO l[j].2))) (hml : m = (bodyO l[j].2).length) (hmc : m ≤ c) (hcm : c ≤ maxLen) :
  Calls Tryz.prog 72 #[.pointer (some ⟨q, 0, none⟩), .int .i64 (l[j].1 : Int), .slice A m c] wr fun e w' => e = .returned (.tuple #[]) ∧ Lt S I w wa wb w' p q lq Fl lst s l (j + 1) ∧ Keeps (fun b => wa.heap.size ≤ b ∧ b < wb.heap.size) wr w' := by
 obtain ⟨iq, Fi, ix, hc, hx, h1, h2⟩ := h.ex
 have hsz := h.sz
 have hsz2 := h.kp.size
 refine (clearn S I J w wr hIT (J.tk hJT h.kp) p q lq iq Fl Fi 1 lst ix s hc h.kp h1 (l.take j) j hx hjs l[j] hm hpo A m c hr hml hmc hcm).mono ?_
 rintro e w' ⟨rfl, iq', Fi', ix', hc', hx', hl⟩
 have hsz' := hl.k.size
 have all' : ∀ b, Fi'.all b → Fi.all b ∨ wr.heap.size ≤ b := fun b hb => by
  rcases hb with hb | hb
  ·rcases hl.m b hb with h1 | h1
   ·exact .inl (.inl h1)
   ·exact .inr h1
  ·exact hl.i b hb
 refine ⟨rfl, ⟨⟨iq', Fi', ix', hc', ?_, fun b hb => ?_, fun b hb => ?_⟩, ⟨hl.k.os.trans h.kp.os, hl.k.tape.trans h.kp.tape, hl.k.output.trans h.kp.output, Nat.le_trans hsz2 hsz', fun b _ hb => ?_⟩, Nat.le_trans hsz hsz'⟩, hl.k.mono fun b _ hb => ⟨fun e => by omega, fun hm => ?_⟩⟩
 ·rw [List.take_succ_eq_append_getElem hj]; exact hx'
 ·rcases all' b hb with h3 | h3
  ·exact h1 b h3
  ·omega
 ·rcases all' b hb with h3 | h3
  ·exact h2 b h3
  ·omega
 ·exact (hl.k.block b ⟨fun e => by omega, fun hm => by have := h1 b (.inl hm); omega⟩ (Nat.lt_of_lt_of_le hb hsz2)).trans (h.kp.block b trivial hb)
 ·rcases h2 b (.inl hm) with h3 | h3
  ·omega
  ·omega
end
def FOpenPost (S : Slog2) (I : IndexOK) (w : World) (p : Nat) (s : SDev) (st : FSt) (e : Ending) (w' : World) : Prop :=
 ∃ (q : Nat) (Fs : Foot), e = .returned (.tuple #[.pointer (some ⟨q, 0, none⟩), .int .i64 0]) ∧ flashRep S I w' p q Fs st s ∧ (∀ b, Fs.all b → w.heap.size ≤ b) ∧ Kp w w'
set_option maxRecDepth 100000 in
set_option maxHeartbeats 2000000 in
theorem copen (S : Slog2) (I : IndexOK) (J : ItemOK) (w : World) (hT : S.T w ∧ I.T w ∧ J.T w) (p : Nat) (F : Foot) (s : SDev) (st : FSt) (hd : DAt w p F s) (i n : Nat) (hroom : st.place + 8 * st.segs ≤ s.now.length) (hage : st.age ≤ 30000)
  (hop : Calls Tryz.prog 96 #[.pointer (some ⟨p, 0, none⟩), .int .i64 i, .int .i64 n] w fun e w' => ∃ (lq : Nat) (Fl : Foot) (lst : LSt) (hs : List FRec), e = .returned (.tuple #[.pointer (some ⟨lq, 0, none⟩), .int .i64 0]) ∧ S.rep w' lq Fl lst s ∧ lst.dev = p ∧ FM st lst hs ∧ (∀ b, Fl.all b → w.heap.size ≤ b) ∧ Kp w w') :
  Calls Tryz.prog 67 #[.pointer (some ⟨p, 0, none⟩), .int .i64 i, .int .i64 n] w (FOpenPost S I w p s st) := by
 have HOP := Lib.hid hop
 have HD := Lib.hid hd
 clear hop hd
 go_enter Tryz.func67, Tryz.ntmps67
 go_wp2_with fail
 refine (show Calls _ _ _ _ _ from HOP.out).mono ?_
 rintro e w1 ⟨lq, Fl, lst, hs, rfl, hrep, hon, hm, hFl, hk1⟩
 have HNEW := Lib.hid (I.new w1 (I.tk hT.2.1 hk1))
 have HREP := Lib.hid hrep
 have HM := Lib.hid hm
 have HFL := Lib.hid hFl
 have HK1 := Lib.hid hk1
 have HON := Lib.hid hon
 clear hrep hm hFl hk1 hon
 go_wp2_with fail
 refine (show Calls _ _ _ _ _ from HNEW.out).mono ?_
 rintro e w2 ⟨iq, Fi, rfl, hi, hFi, hk2⟩
 have HI := Lib.hid hi
 have HFI := Lib.hid hFi
 have HK2 := Lib.hid hk2
 clear hi hFi hk2
 go_wp2_with fail
 obtain ⟨wa, hwa⟩ : ∃ wa, w2.alloc (.cells #[.pointer (some ⟨lq, 0, none⟩), .pointer (some ⟨iq, 0, none⟩), .int .i64 1] 92) = wa := ⟨_, rfl⟩
 have hba : CBlk wa w2.heap.size lq iq 1 := by rw [← hwa]; exact heap_alloc_new w2 _
 have hka : Kp w2 wa := by rw [← hwa]; exact (Keeps.refl _ w2).alloc _
 have hza : wa.heap.size = w2.heap.size + 1 := by rw [← hwa]; simp
 have hz1 := HK1.out.size
 have hz2 := HK2.out.size
 have hk2a := HK2.out.trans hka
 have HWA := Lib.hid hwa
 have HALL := Lib.hid (S.all2 wa p lq F Fl s lst (HD.out.keep ((HK1.out.trans hk2a).mono fun _ _ _ => trivial)) (S.keep HREP.out (hk2a.mono fun _ _ _ => trivial)) HON.out (S.tk hT.1 (HK1.out.trans hk2a)) (by rw [HM.out.place, HM.out.segs]; exact hroom))
 have hL0 := S.lt HREP.out
 have HC0 := Lib.hid (show CAt S I wa p w2.heap.size lq iq Fl Fi 1 lst [] s from
  ⟨hba, S.keep HREP.out (hk2a.mono fun _ _ _ => trivial), I.keep HI.out (hka.mono fun _ _ _ => trivial), HON.out, ⟨fun b hb hf => by have := HFI.out b hf; have := hL0 b (.inl hb); omega, fun b hb hf => by have := HFI.out b (.inl hb); have := hL0 b hf; omega⟩, fun hf => by have := hL0 _ hf; omega, fun hf => by have := I.lt HI.out _ hf; omega⟩)
 have hiz := fun b hb => I.lt HI.out b hb
 have HQ := Lib.hid (show w.heap.size ≤ w2.heap.size ∧ w2.heap.size < wa.heap.size from ⟨by omega, by omega⟩)
 have HFI2 := Lib.hid (show ∀ b, Fi.all b → w.heap.size ≤ b ∧ b < wa.heap.size from fun b hb => ⟨by have := HFI.out b hb; omega, by have := hiz b hb; omega⟩)
 have HKA := Lib.hid (HK1.out.trans hk2a)
 have HPOS := Lib.hid (show ∀ a ∈ hs, a.1 < 9223372036854775808 from fun a ha => by
  have hok := S.wf HREP.out
  have : a.1 ∈ hs.map (·.1) := List.mem_map.2 ⟨a, ha, rfl⟩
  rw [← HM.out.pos] at this
  obtain ⟨r, hr, e⟩ := List.mem_map.1 this
  have h1 := hok.next.2 r hr
  have h2 := hok.small
  rw [← e]
  omega)
 obtain ⟨L, hL⟩ : ∃ L, hs.drop lst.gone = L := ⟨_, rfl⟩
 have HL := Lib.hid hL
 have HRC := Lib.hid (show lst.recs = L.map frk from by rw [HM.out.recs, hL])
 have HLM := Lib.hid (show L.length ≤ st.age from by
  have h1 := HM.out.len
  have h2 := HM.out.age
  rw [← hL, List.length_drop]
  omega)
 have HLS := Lib.hid (show ∀ a ∈ L, a ∈ hs from fun a ha => by rw [← hL] at ha; exact List.mem_of_mem_drop ha)
 clear hwa hba hka hza hz1 hz2 hk2a hL0 hiz hL HK1 HK2 HI HFI
 go_wp2_with (rw [HWA.out])
 try rw [HWA.out]
 refine (show Calls _ _ _ _ _ from HALL.out).mono ?_
 rintro e wb ⟨A, c, rfl, hmc, hcm, hrc, hkb⟩
 rw [HRC.out] at hrc
 obtain ⟨m, hlm⟩ : ∃ m, lst.recs.length = m := ⟨_, rfl⟩
 rw [hlm] at hmc ⊢
 have hLm : L.length = m := by rw [← hlm, HRC.out, List.length_map]
 have HLEN := Lib.hid hLm
 have HKB := Lib.hid hkb
 have HREC := Lib.hid (show ∀ (j : Nat) (hj : j < L.length), ∃ b o, A = some ⟨b, o, none⟩ ∧ ∀ wr, Keeps (fun b => wa.heap.size ≤ b ∧ b < wb.heap.size) wb wr → wr.cell? ⟨b, o + j * 2, none⟩ = some (.int .i64 ((L[j].1 : Nat) : Int)) ∧ ∃ B mm c, wr.cell? ⟨b, o + j * 2 + 1, none⟩ = some (.slice B mm c) ∧ mm = (bodyO L[j].2).length ∧ mm ≤ c ∧ c ≤ maxLen ∧ Row wr B (fun _ => True) (bcells (bodyO L[j].2)) from fun j hj => by
  have hne : L.map frk ≠ [] := fun e => by have := congrArg List.length e; simp at this; rw [this] at hj; simp at hj
  obtain ⟨b, o, e, hG, hc⟩ := hrc hne
  refine ⟨b, o, e, fun wr hk => ?_⟩
  obtain ⟨c0, B, cc, c1, h1, h2, h3⟩ := hc j (by rw [List.length_map]; exact hj)
  rw [List.getElem_map] at c0 c1 h1 h3
  exact ⟨hk.cell c0 hG, B, _, cc, hk.cell c1 hG, rfl, h1, h2, (h3.keep hk).mono fun _ _ _ => trivial⟩)
 have hmage : m ≤ 30000 := by have := HLM.out; omega
 unfold maxLen at hcm
 clear hlm hLm hrc hkb
 have HST := Lib.hid (show Lt S I w wa wb wb p w2.heap.size lq Fl lst s L 0 from
  ⟨⟨iq, Fi, [], HC0.out.kp HKB.out, IxSays.nil, fun b hb => (HFI2.out b hb).1, fun b hb => .inl (HFI2.out b hb).2⟩, HKA.out.trans HKB.out, Nat.le_refl _⟩)
 have HEND := Lib.hid (show ∀ wr, Lt S I w wa wb wr p w2.heap.size lq Fl lst s L m → FOpenPost S I w p s st (.returned (.tuple #[.pointer (some ⟨w2.heap.size, 0, none⟩), .int .i64 0])) wr from fun wr h => by
  obtain ⟨iq', Fi', ix', hc, hx, h1, h2⟩ := h.ex
  rw [List.take_of_length_le (by rw [HLEN.out]; exact Nat.le_refl _), ← HL.out] at hx
  exact ⟨w2.heap.size, cfoot w2.heap.size Fl Fi', rfl, ⟨lq, iq', Fl, Fi', 1, lst, ix', hs, rfl, hc, HM.out, hx.more (by rw [← HLEN.out]; exact HLM.out)⟩, fun b hb => by
   rcases cfoot_all.1 hb with rfl | hb | hb
   ·exact HQ.out.1
   ·exact HFL.out b hb
   ·exact h1 b hb, h.kp⟩)
 have HMAY := Lib.hid (show ∀ (j : Nat) (hj : j < L.length) x, L[j].2 = some x → x.may = true from fun j hj x hx => HM.out.may L[j].1 x (HLS.out _ (by rw [← hx]; exact List.getElem_mem hj)))
 have HPO := Lib.hid (show ∀ (j : Nat) (hj : j < L.length), L[j].1 < 9223372036854775808 from fun j hj => HPOS.out _ (HLS.out _ (List.getElem_mem hj)))
 clear HALL HC0 HFI2 HKA HPOS HRC HLS HREP HFL HNEW HOP
 obtain ⟨q, hq⟩ : ∃ q, w2.heap.size = q := ⟨_, rfl⟩
 rw [hq] at HST HEND HQ ⊢
 clear hq
 go_wp2_with fail
 go_loopw [30] (fun i wr => ∃ j, j ≤ m ∧ i = .int .i64 j ∧ RowKit.Hid (Lt S I w wa wb wr p q lq Fl lst s L j) ∧ RowKit.Hid (Keeps (fun b => wa.heap.size ≤ b ∧ b < wb.heap.size) wb wr)) (fun i _ => m - (intOf i).toNat)
 case atStart => exact ⟨0, Nat.zero_le _, rfl, HST, Lib.hid (Keeps.refl _ _)⟩
 case round =>
  obtain ⟨j, hj, rfl, hlt, hkg⟩ := hrel
  by_cases hjm : j < m
  ·have t1 : decide ((j : Int) < (m : Int)) = true := by simp; omega
   have hjl : j < L.length := by rw [HLEN.out]; exact hjm
   obtain ⟨b, o, rfl, hrow⟩ := HREC.out j hjl
   obtain ⟨c0, B, mm, cc, c1, hmm, hmc2, hcc2, hr⟩ := hrow wr hkg.out
   have HKW := Lib.hid (show Kp wr (wr.alloc (.cells #[.int .i64 ((L[j].1 : Nat) : Int), .slice B mm cc] 172)) from (Keeps.refl _ wr).alloc _)
   have HLN := Lib.hid ((hlt.out.keep HKW.out).step J hT.2.1 hT.2.2 HQ.out.1 HQ.out.2 hjl (by omega) (HMAY.out j hjl) (HPO.out j hjl) B mm cc (hr.keep HKW.out) hmm hmc2 hcc2)
   clear hmm hmc2 hcc2 hr hrow
   generalize L[j].1 = po at c0 HKW HLN
   go_wp2_with fail
   refine (show Calls _ _ _ _ _ from HLN.out).mono ?_
   rintro e w4 ⟨rfl, hl4, hk4⟩
   have HL4 := Lib.hid hl4
   have HK4 := Lib.hid (hkg.out.trans ((HKW.out.mono fun _ _ _ => trivial).trans hk4))
   clear hl4 hk4 HLN c0 c1
   go_wp2_with fail
   go_roundw
   case rel => exact ⟨j + 1, by omega, by go_num, HL4, HK4⟩
   case measure => simp [intOf]; omega
  ·have t1 : decide ((j : Int) < (m : Int)) = false := by simp; omega
   obtain rfl : j = m := by omega
   have HE := Lib.hid (HEND.out wr hlt.out)
   clear hjm
   go_wp2_with fail
   go_ret2
   exact HE.out
end Go.Proofs.YticophaepapjoaaGreatDoor
namespace Go.Proofs.YticophaepapjoaaGreatDoor
theorem take_next {α : Type} (l : List α) (k : Nat) (h : k < l.length) : l.take (k + 1) = l.take k ++ [l[k]] := by
 rw [List.take_add_one, List.getElem?_eq_getElem h]; rfl
end Go.Proofs.YticophaepapjoaaGreatDoor
namespace Go.Proofs.YticophaepapjoaaGreatDoor
def takeL (k : Nat) : Option (Int × List UInt8) → Option (Nat × List UInt8)
 | none => none
 | some (n, x) => if n < 8 ∨ 2199023255552 ≤ n ∨ n % 8 ≠ (k : Int) ∨ 53 < x.length then none else some (n.toNat, x)
def decL (k : Nat) (l : List UInt8) : Option (Nat × List UInt8) := takeL k (decF 76 l)
def encL (n : Nat) (x : List UInt8) : List UInt8 := encF 76 n x
theorem encL_len (n : Nat) (x : List UInt8) (hn : n < 2199023255552) (hx : x.length ≤ 53) : (encL n x).length = 64 := encF_len _ _ _ (headS_len n x hx hn)
theorem decL_enc (n : Nat) (x : List UInt8) (k : Nat) (h8 : 8 ≤ n) (hn : n < 2199023255552) (hk : n % 8 = k) (hx : x.length ≤ 53) : decL k (encL n x) = some (n, x) := by
 unfold decL encL
 rw [decF_enc _ n x (headS_len n x hx hn) (by omega) (by omega)]
 unfold takeL
 simp only
 rw [if_neg (by omega), Int.toNat_natCast]
theorem decL_blank (k : Nat) : decL k blank = none := by
 unfold decL
 rcases decF_blank 76 with h | h <;> rw [h]
 ·rfl
 ·unfold takeL; simp
theorem decL_wf {k : Nat} {l : List UInt8} {n : Nat} {x : List UInt8} (h : decL k l = some (n, x)) : 8 ≤ n ∧ n < 2199023255552 ∧ n % 8 = k ∧ x.length ≤ 53 := by
 unfold decL takeL at h
 split at h
 ·cases h
 ·split at h
  ·cases h
  ·rename_i n' x' _ hc
   injection h with h
   injection h with h1 h2
   subst h1 h2
   omega
def strm (rs : List LRec) : List UInt8 := rs.flatMap fun r => putT r.body
theorem strm_snoc (rs : List LRec) (r : LRec) : strm (rs ++ [r]) = strm rs ++ putT r.body := by simp [strm]
theorem strm_append (a b : List LRec) : strm (a ++ b) = strm a ++ strm b := by simp [strm]
def endAt (rs : List LRec) (i : Nat) : Nat := (strm (rs.take i)).length
theorem endAt_zero (rs : List LRec) : endAt rs 0 = 0 := by simp [endAt, strm]
theorem endAt_len (rs : List LRec) : endAt rs rs.length = (strm rs).length := by simp [endAt]
theorem endAt_next (rs : List LRec) (i : Nat) (h : i < rs.length) : endAt rs (i + 1) = endAt rs i + (putT rs[i].body).length := by
 unfold endAt; rw [take_next _ _ h, strm_snoc, List.length_append]
theorem strm_split (rs : List LRec) (i : Nat) : strm rs = strm (rs.take i) ++ strm (rs.drop i) := by
 rw [← strm_append, List.take_append_drop]
theorem strm_drop (rs : List LRec) (i : Nat) : (strm rs).drop (endAt rs i) = strm (rs.drop i) := by
 conv => lhs; arg 2; rw [strm_split rs i]
 exact List.drop_left
theorem endAt_le (rs : List LRec) (i : Nat) : endAt rs i ≤ (strm rs).length := by
 rw [strm_split rs i, List.length_append]; unfold endAt; omega
theorem strm_at (rs : List LRec) (i : Nat) (h : i < rs.length) : (strm rs).drop (endAt rs i) = putT rs[i].body ++ strm (rs.drop (i + 1)) := by
 rw [strm_drop, List.drop_eq_getElem_cons h]; rfl
theorem strm_rec (rs : List LRec) (i : Nat) (h : i < rs.length) : ((strm rs).drop (endAt rs i)).take (endAt rs (i + 1) - endAt rs i) = putT rs[i].body := by
 rw [strm_at rs i h, endAt_next rs i h, Nat.add_sub_cancel_left]; exact List.take_left
theorem putT_pos (x : List UInt8) : x.length + 1 ≤ (putT x).length := by
 unfold putT; rw [List.length_append]
 have := vin_pos (zig (x.length : Int))
 unfold putZ; omega
theorem putT_most (x : List UInt8) (h : x.length ≤ 300) : (putT x).length ≤ x.length + 2 := by
 unfold putT; rw [List.length_append]
 have : (putZ (x.length : Int)).length ≤ 2 := by
  unfold putZ
  refine vin_len 1 _ ?_
  have : zig (x.length : Int) = 2 * x.length := by unfold zig; rw [if_neg (by omega)]; omega
  rw [this]
  have e : (128 : Nat) ^ (1 + 1) = 16384 := by decide
  omega
 omega
theorem strm_count (rs : List LRec) (h : ∀ r ∈ rs, 1 ≤ r.body.length) : 2 * rs.length ≤ (strm rs).length := by
 induction rs with
 | nil => simp [strm]
 | cons r rs ih =>
  have h1 := h r (by simp)
  have h2 := ih fun r hr => h r (by simp [hr])
  have h3 := putT_pos r.body
  have e : strm (r :: rs) = putT r.body ++ strm rs := by simp [strm]
  rw [e, List.length_append, List.length_cons]; omega
theorem endAt_lt (rs : List LRec) (i : Nat) (h : i < rs.length) : endAt rs i < endAt rs (i + 1) := by
 rw [endAt_next rs i h]; have := putT_pos rs[i].body; omega
theorem strm_costs (rs : List LRec) (h : ∀ r ∈ rs, r.body.length ≤ 300) : (strm rs).length + 58 * rs.length ≤ costs rs := by
 induction rs with
 | nil => simp [strm, costs]
 | cons r rs ih =>
  have h2 := ih fun r hr => h r (by simp [hr])
  have h3 := putT_most r.body (h r (by simp))
  have e : strm (r :: rs) = putT r.body ++ strm rs := by simp [strm]
  have e2 : costs (r :: rs) = r.cost + costs rs := by simp [costs]
  rw [e, e2, List.length_append, List.length_cons]
  unfold LRec.cost; omega
def chunk (l : List UInt8) (k : Nat) : List UInt8 := (l.drop (53 * k)).take 53
def nsec (n : Nat) : Nat := max 1 ((n + 52) / 53)
theorem chunk_len (l : List UInt8) (k : Nat) : (chunk l k).length = min 53 (l.length - 53 * k) := by simp [chunk]
theorem chunk_next (l : List UInt8) (a m : Nat) : (l.drop (53 * a)).take (53 * (m + 1)) = (l.drop (53 * a)).take (53 * m) ++ chunk l (a + m) := by
 unfold chunk
 rw [show 53 * (m + 1) = 53 * m + 53 by omega, List.take_add, List.drop_drop]
 congr 3
 omega
theorem chunk_append (l r : List UInt8) (k : Nat) (h : k < l.length / 53) : chunk (l ++ r) k = chunk l k := by
 unfold chunk
 rw [List.drop_append_of_le_length (by omega), List.take_append_of_le_length (by rw [List.length_drop]; omega)]
theorem chunk_tail (l r : List UInt8) (j : Nat) : chunk (l ++ r) (l.length / 53 + j) = chunk (l.drop (53 * (l.length / 53)) ++ r) j := by
 unfold chunk
 rw [Nat.mul_add, ← List.drop_drop, List.drop_append_of_le_length (by omega)]
structure Seg where
 slot : Nat
 first : Nat
 recs : List LRec
 deriving Inhabited
def Seg.text (s : Seg) : List UInt8 := strm s.recs
def Seg.end_ (s : Seg) : Nat := s.first + s.recs.length
structure Seg.Ok (s : Seg) : Prop where
 len : s.text.length ≤ 424
 one : ∀ r ∈ s.recs, 1 ≤ r.body.length ∧ r.body.length ≤ 300
 pos : ∀ i (h : i < s.recs.length), (s.recs[i]).pos = s.first + i
 first : 1 ≤ s.first
theorem Seg.Ok.count {s : Seg} (h : s.Ok) : s.recs.length ≤ 212 := by
 have := strm_count s.recs fun r hr => (h.one r hr).1
 have := h.len
 unfold Seg.text at this
 omega
def secAt (rows : List (List UInt8)) (p i k : Nat) : Option (Nat × List UInt8) := decL k (rows.getD (p + i * 8 + k) [])
structure SegOn (rows : List (List UInt8)) (p : Nat) (s : Seg) : Prop where
 has : ∀ k, k < nsec s.text.length → secAt rows p s.slot k = some (s.first * 8 + k, chunk s.text k)
 rest : ∀ k, nsec s.text.length ≤ k → k < 8 → ∀ n x, secAt rows p s.slot k = some (n, x) → n < s.first * 8
structure Chain (segs b0 : Nat) (ks : List Seg) : Prop where
 base : b0 < segs
 len : ks.length ≤ segs
 slot : ∀ i (h : i < ks.length), (ks[i]).slot = (b0 + i) % segs
 ok : ∀ s ∈ ks, s.Ok
 rise : ks.Pairwise fun a b => a.end_ ≤ b.first
 full : ∀ s ∈ ks, s.recs ≠ []
 cost : ∀ i (h : i + 1 < ks.length), 461 ≤ costs (ks[i]).recs + costs (ks[i + 1]).recs
structure OnDisk (rows : List (List UInt8)) (p segs : Nat) (ks : List Seg) : Prop where
 on : ∀ s ∈ ks, SegOn rows p s
 none : ∀ i, i < segs → (∀ s ∈ ks, s.slot ≠ i) → ∀ k, k < 8 → secAt rows p i k = none
theorem secAt_same {rows rows' : List (List UInt8)} {p i k segs : Nat} (h : ∀ j, p ≤ j ∧ j < p + 8 * segs → rows'.getD j [] = rows.getD j []) (hi : i < segs) (hk : k < 8) : secAt rows' p i k = secAt rows p i k := by
 unfold secAt; rw [h _ (by omega)]
theorem nsec_le (n : Nat) (h : n ≤ 424) : nsec n ≤ 8 := by unfold nsec; omega
theorem OnDisk.same {rows rows' : List (List UInt8)} {p segs : Nat} {ks : List Seg} (h : OnDisk rows p segs ks) (hs : ∀ j, p ≤ j ∧ j < p + 8 * segs → rows'.getD j [] = rows.getD j []) (hk : ∀ s ∈ ks, s.slot < segs) (hl : ∀ s ∈ ks, s.text.length ≤ 424) : OnDisk rows' p segs ks :=
 ⟨fun s m => ⟨fun k h1 => by rw [secAt_same hs (hk s m) (Nat.lt_of_lt_of_le h1 (nsec_le _ (hl s m)))]; exact (h.on s m).has k h1, fun k h1 h2 n x => by rw [secAt_same hs (hk s m) h2]; exact (h.on s m).rest k h1 h2 n x⟩,
  fun i hi hn k hk' => by rw [secAt_same hs hi hk']; exact h.none i hi hn k hk'⟩
theorem Chain.slot_lt {segs b0 : Nat} {ks : List Seg} (h : Chain segs b0 ks) : ∀ s ∈ ks, s.slot < segs := fun s hs => by
 obtain ⟨i, hi, rfl⟩ := List.getElem_of_mem hs
 rw [h.slot i hi]
 exact Nat.mod_lt _ (by have := h.base; omega)
theorem Chain.slot_inj {segs b0 : Nat} {ks : List Seg} (h : Chain segs b0 ks) {i j : Nat} (hi : i < ks.length) (hj : j < ks.length) (e : (ks[i]).slot = (ks[j]).slot) : i = j := by
 rw [h.slot i hi, h.slot j hj] at e
 have h1 := h.base
 have h2 := h.len
 have e1 : (b0 + i) % segs = if b0 + i < segs then b0 + i else b0 + i - segs := by
  split
  ·exact Nat.mod_eq_of_lt (by assumption)
  ·rw [Nat.mod_eq_sub_mod (by omega), Nat.mod_eq_of_lt (by omega)]
 have e2 : (b0 + j) % segs = if b0 + j < segs then b0 + j else b0 + j - segs := by
  split
  ·exact Nat.mod_eq_of_lt (by assumption)
  ·rw [Nat.mod_eq_sub_mod (by omega), Nat.mod_eq_of_lt (by omega)]
 rw [e1, e2] at e
 split at e <;> split at e <;> omega
end Go.Proofs.YticophaepapjoaaGreatDoor
namespace Go.Proofs.YticophaepapjoaaGreatDoor
open Go Go.RowKit Go.Joins Go.Shelf
attribute [local go_sem] Oper.semAt_some
def chunks (len : Nat) : Nat := (len + 52) / 53
def chLen (len k : Nat) : Nat := min 53 (len - 53 * k)
def encCh (g o len k : Nat) : Array Value := #[.slice (some ⟨g, o + 53 * k, none⟩) (chLen len k) (chLen len k)]
def KpB (Bs Bn : Nat) (W W' : World) : Prop := Keeps (fun b => b = Bs ∨ b = Bn) W W'
set_option maxRecDepth 100000 in
set_option maxHeartbeats 1000000 in
theorem chunk1_in (F : Fence) (n : Nat) (hfn : F.fn 172) (hro : F.round = none) (hn : 1 ≤ n) (l Bs Bn g o len cap : Nat) (hlc : len ≤ cap) (hlm : len ≤ 1000000000000) (J Jx : List Nat → World → Prop) (hJd : ∀ s W, J s W → J s W.drew)
  (hY : ∀ pre x W, J pre W → pre.length < chunks len → YieldAt F (n - 1) Tryz.prog l (encCh g o len x) W fun e W' =>
   (e = .returned (.bool true) ∧ J (pre ++ [x]) W' ∧ KpB Bs Bn W W') ∨ (e = .returned (.bool false) ∧ Jx (pre ++ [x]) W'))
  (W : World) (hBs : W.cell? ⟨Bs, 0, none⟩ = some (.slice (some ⟨g, o, none⟩) len cap)) (hBn : W.cell? ⟨Bn, 0, none⟩ = some (.int .i64 53)) (h0 : J [] W) :
  CallsIn F n Tryz.prog 172 #[.func (.yield l) #[] #[], .pointer (some ⟨Bs, 0, none⟩), .pointer (some ⟨Bn, 0, none⟩)] W fun e W' => (∃ v, e = .returned v) ∧
   ((∃ ys, ys = List.range (chunks len) ∧ J ys W') ∨ (∃ pre, (∃ k, k ≤ chunks len ∧ pre = List.range k) ∧ Jx pre W')) := by
 refine callsIn_of_wp Tryz.func172 rfl hfn ?_ hro
 simp only [Tryz.ntmps172, List.size_toArray, List.length_cons, List.length_nil, Nat.reduceAdd, Nat.reduceSub, Array.replicate_succ, Array.replicate_zero, List.push_toArray, List.append_toArray, List.nil_append, List.cons_append]
 have HY := Lib.hid hY
 have HBs := Lib.hid hBs
 have HBn := Lib.hid hBn
 clear hY hBs hBn
 gi_wp2
 gi_loopw [4] (fun vi wr => ∃ k i : Nat, RowKit.Hid (i = 53 * k) ∧ k ≤ chunks len ∧ vi = .int .i64 i ∧ J (List.range k) wr ∧ KpB Bs Bn W wr)
  (fun vi _ => len + 53 - (intOf vi).toNat)
 case atStart => exact ⟨0, 0, Lib.hid rfl, Nat.zero_le _, rfl, h0, Keeps.refl _ _⟩
 case round =>
  obtain ⟨k, i, hi, hk, rfl, hJs, hkp⟩ := hrel
  have cs := hkp.cell HBs.out (.inl rfl)
  have cn := hkp.cell HBn.out (.inr rfl)
  by_cases hlt : k < chunks len
  ·have hil : i < len := by have := hi.out; unfold chunks at hlt; omega
   obtain ⟨e, he⟩ : ∃ e, chLen len k = e := ⟨_, rfl⟩
   obtain ⟨fn, tmps, assign, body, hy, hR⟩ := HY.out _ k wr.drew (hJd _ _ hJs) (by rw [List.length_range]; exact hlt)
   have hee : e = min 53 (len - i) := by rw [← he, hi.out]; rfl
   have hHI := Lib.hid hi.out
   have hy' : (Instr.yield l #[.slice (some ⟨g, o + i, none⟩) e e]).run Tryz.prog wr.drew = .ok (.round l fn tmps assign body) wr.drew := by
    have h := hy
    unfold encCh at h
    rw [he, ← hi.out] at h
    exact h
   have hmin : min (53 : Int) ((len - i : Nat) : Int) = (e : Int) := by omega
   have hne : ¬ cap = i := by omega
   have h1 : i ≤ len := by omega
   have h2 : i ≤ cap := by omega
   have h3 : i + e ≤ cap := by omega
   have h4 : i ≤ i + e := by omega
   have HEE := Lib.hid hee
   have HK := Lib.hid hkp
   clear hy he hee hi hkp
   gi_wp2
   gi_region
   all_goals gi_wp2
   all_goals refine hR.mono ?_
   all_goals rintro e' W3 (⟨rfl, hJ3, hk3⟩ | ⟨rfl, hJx3⟩)
   all_goals first
    | (have cs := hk3.cell cs (.inl rfl)
       have cn := hk3.cell cn (.inr rfl)
       gi_wp2
       go_roundw
       case rel => exact ⟨k + 1, i + 53, Lib.hid (by have := hHI.out; omega), by omega, by go_num, by rw [List.range_succ]; exact hJ3, HK.out.drew.trans hk3⟩
       case measure => simp [intOf]; omega)
    | (gi_wp2
       refine bodyPost_ret (results_none rfl _ _ _) rfl ?_
       exact ⟨⟨_, rfl⟩, .inr ⟨_, ⟨k + 1, by omega, (List.range_succ).symm⟩, hJx3⟩⟩)
  ·obtain rfl : k = chunks len := by omega
   have hil : ¬ (i : Int) < (len : Int) := by have := hi.out; unfold chunks at this; omega
   gi_wp2
   go_end0
   exact ⟨⟨_, rfl⟩, .inl hJs⟩
end Go.Proofs.YticophaepapjoaaGreatDoor
