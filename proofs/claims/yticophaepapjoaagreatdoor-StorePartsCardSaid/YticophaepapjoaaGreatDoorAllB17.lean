/-
  IxTab, IxMem: texts of mine, joined.
-/
import Derived.Test.YticophaepapjoaaGreatDoorAllB10
import Derived.Test.YticophaepapjoaaGreatDoorAllB02
import Derived.Lib.SmallJoins
import Derived.Lib.Hide
import Derived.BigQuiet
set_option maxRecDepth 100000
set_option maxHeartbeats 8000000
namespace Go.Proofs.YticophaepapjoaaGreatDoor
open Go Go.RowKit
structure TabOk (h : ByteArray → Nat) (T : Tab) (n : Nat) (st : IxSt) : Prop where
 perm : (ents T n).Perm st
 nd : (st.map (·.1)).Nodup
 hash : ∀ i, i < n → (T i).full = true → (T i).hash = (h (T i).key : Int)
 path : ∀ i, i < n → (T i).full = true → ∀ d, d ≤ way n (h (T i).key % n) i → (T (nx n (h (T i).key % n) d)).full = true
 room : st.length < n
section
variable {h : ByteArray → Nat} {T : Tab} {n i k d e f : Nat} {st : IxSt} {key : ByteArray} {p : Int}
theorem TabOk.pos (H : TabOk h T n st) : 0 < n := by have := H.room; omega
theorem TabOk.nde (H : TabOk h T n st) : ((ents T n).map (·.1)).Nodup := (H.perm.map (·.1)).nodup_iff.2 H.nd
theorem TabOk.free (H : TabOk h T n st) : ∃ f, f < n ∧ (T f).full = false := free_slot (by rw [H.perm.length_eq]; exact H.room)
theorem TabOk.of_perm {st' : IxSt} (H : TabOk h T n st) (hp : st.Perm st') : TabOk h T n st' :=
 ⟨H.perm.trans hp, (hp.map (·.1)).nodup_iff.1 H.nd, H.hash, H.path, by rw [← hp.length_eq]; exact H.room⟩
structure Seen (h : ByteArray → Nat) (T : Tab) (n : Nat) (key : ByteArray) (d i : Nat) : Prop where
 dn : d < n
 at_ : i = nx n (h key % n) d
 full : ∀ e, e < d → (T (nx n (h key % n) e)).full = true
 none : ∀ e, e < d → (T (nx n (h key % n) e)).key ≠ key
theorem Seen.start (hn : 0 < n) (key : ByteArray) : Seen h T n key 0 (h key % n) :=
 ⟨hn, (nx_zero (Nat.mod_lt _ hn)).symm, fun _ he => by omega, fun _ he => by omega⟩
theorem Seen.lt (S : Seen h T n key d i) : i < n := by
 rw [S.at_]
 exact nx_lt (Nat.mod_lt _ (by have := S.dn; omega)) (by have := S.dn; omega)
theorem Seen.way (S : Seen h T n key d i) : way n (h key % n) i = d := by
 rw [S.at_]
 exact way_nx (Nat.mod_lt _ (by have := S.dn; omega)) S.dn
theorem Seen.next (S : Seen h T n key d i) (hf : f < n) (hff : (T f).full = false) (hi : (T i).full = true) (hk : (T i).key ≠ key) : Seen h T n key (d + 1) (nx n i 1) := by
 have hn : 0 < n := by omega
 have hm := Nat.mod_lt (h key) hn
 have hd : d + 1 < n := by
  refine Classical.byContradiction fun hh => ?_
  have hw := way_lt hm hf
  have hx := nx_way hm hf
  rcases Nat.lt_or_ge (Go.Proofs.YticophaepapjoaaGreatDoor.way n (h key % n) f) d with h1 | h1
  ·have := S.full _ h1
   rw [hx, hff] at this; cases this
  ·have : Go.Proofs.YticophaepapjoaaGreatDoor.way n (h key % n) f = d := by have := S.dn; omega
   rw [this, ← S.at_] at hx
   rw [hx, hff] at hi; cases hi
 refine ⟨hd, ?_, fun e he => ?_, fun e he => ?_⟩
 ·rw [S.at_, nx_one hm hd]
 ·rcases Nat.lt_or_ge e d with h1 | h1
  ·exact S.full e h1
  ·have : e = d := by omega
   rw [this, ← S.at_]; exact hi
 ·rcases Nat.lt_or_ge e d with h1 | h1
  ·exact S.none e h1
  ·have : e = d := by omega
   rw [this, ← S.at_]; exact hk
theorem Seen.miss (S : Seen h T n key d i) (H : TabOk h T n st) (hi : (T i).full = false) : ixGet st key = Option.none := by
 rw [ixGet_none]
 intro x hx hk
 obtain ⟨j, hj, hfj, rfl⟩ := ents_of (H.perm.symm.subset hx)
 have hk : (T j).key = key := hk
 have hm := Nat.mod_lt (h key) H.pos
 have hp := H.path j hj hfj
 rw [hk] at hp
 rcases Nat.lt_or_ge (Go.Proofs.YticophaepapjoaaGreatDoor.way n (h key % n) j) d with h1 | h1
 ·have := S.none _ h1
  rw [nx_way hm hj] at this
  exact this hk
 ·have := hp d h1
  rw [← S.at_, hi] at this; cases this
theorem TabOk.hit (H : TabOk h T n st) (hi : i < n) (hf : (T i).full = true) (hk : (T i).key = key) : ixGet st key = some (T i).pos := by
 refine ixGet_of H.nd (H.perm.subset ?_)
 rw [← hk]
 exact ents_mem hi hf
theorem TabOk.again (H : TabOk h T n st) (hi : i < n) (hf : (T i).full = true) (p : Int) : TabOk h (setT T i ⟨(T i).key, (T i).hash, p, true⟩) n (ixPut st (T i).key p) := by
 have e1 : ent (T i) = [((T i).key, (T i).pos)] := by simp [ent, hf]
 have h1 : st.Perm (((T i).key, (T i).pos) :: ents (setT T i Sl.zero) n) := by
  have := H.perm.symm.trans (ents_take hi)
  rwa [e1] at this
 have hP : (ents (setT T i ⟨(T i).key, (T i).hash, p, true⟩) n).Perm (ixPut st (T i).key p) := by
  refine (ents_take hi).trans ?_
  rw [setT_at, setT_two]
  exact (ixPut_again h1 H.nd).symm
 have hfull : ∀ j, (setT T i ⟨(T i).key, (T i).hash, p, true⟩ j).full = (T j).full := fun j => by
  unfold setT; split
  ·rename_i e; rw [e, hf]
  ·rfl
 have hkey : ∀ j, (setT T i ⟨(T i).key, (T i).hash, p, true⟩ j).key = (T j).key := fun j => by
  unfold setT; split
  ·rename_i e; rw [e]
  ·rfl
 have hhash : ∀ j, (setT T i ⟨(T i).key, (T i).hash, p, true⟩ j).hash = (T j).hash := fun j => by
  unfold setT; split
  ·rename_i e; rw [e]
  ·rfl
 refine ⟨hP, ixPut_nodup H.nd, fun j hj hfj => ?_, fun j hj hfj d hd => ?_, ?_⟩
 ·rw [hfull] at hfj; rw [hhash, hkey]; exact H.hash j hj hfj
 ·rw [hfull] at hfj; rw [hkey] at hd ⊢; rw [hfull]; exact H.path j hj hfj d hd
 ·have hl := congrArg List.length (ixPut_keys st (T i).key p (by rw [H.hit hi hf rfl]; rfl))
  rw [List.length_map, List.length_map] at hl
  rw [hl]
  exact H.room
theorem TabOk.add (H : TabOk h T n st) (S : ∀ e, e < d → (T (nx n (h key % n) e)).full = true) (hd : d < n) (hi : i = nx n (h key % n) d) (hf : (T i).full = false) (hno : ixGet st key = none) (p : Int) (hroom : st.length + 1 < n) :
  TabOk h (setT T i ⟨key, (h key : Int), p, true⟩) n (st ++ [(key, p)]) := by
 have hm := Nat.mod_lt (h key) H.pos
 have hin : i < n := by rw [hi]; exact nx_lt hm (by omega)
 have hfull : ∀ j, (T j).full = true → (setT T i ⟨key, (h key : Int), p, true⟩ j).full = true := fun j hj => by
  unfold setT; split
  ·rfl
  ·exact hj
 refine ⟨?_, ?_, fun j hj hfj => ?_, fun j hj hfj d' hd' => ?_, by simpa using hroom⟩
 ·refine (ents_take hin).trans ?_
  rw [setT_at, setT_two]
  have h1 := ents_take (T := T) hin
  have e0 : ent (T i) = [] := by simp [ent, hf]
  rw [e0, List.nil_append] at h1
  refine List.Perm.trans (List.Perm.append_left _ (h1.symm.trans H.perm)) ?_
  exact List.perm_append_comm
 ·have := ixPut_nodup (k := key) (p := p) H.nd
  rwa [ixPut_new hno] at this
 ·by_cases e : j = i
  ·subst e; rw [setT_at]
  ·rw [setT_ne _ _ e] at hfj ⊢; exact H.hash j hj hfj
 ·by_cases e : j = i
  ·subst e
   rw [setT_at] at hd' ⊢
   have hw : way n (h key % n) j = d := by rw [hi]; exact way_nx hm hd
   have hd' : d' ≤ way n (h key % n) j := hd'
   show (setT T j _ (nx n (h key % n) d')).full = true
   rcases Nat.lt_or_ge d' d with h1 | h1
   ·exact hfull _ (S d' h1)
   ·have : d' = d := by omega
    rw [this, ← hi, setT_at]
  ·rw [setT_ne _ _ e] at hfj hd' ⊢
   exact hfull _ (H.path j hj hfj d' hd')
structure Hole (h : ByteArray → Nat) (T : Tab) (n i k : Nat) (st : IxSt) : Prop where
 hi : i < n
 hk : k < n
 ik : i ≠ k
 stale : (T i).full = true
 perm : (ents (setT T i Sl.zero) n).Perm st
 nd : (st.map (·.1)).Nodup
 hash : ∀ j, j < n → (T j).full = true → (T j).hash = (h (T j).key : Int)
 path : ∀ j, j < n → (T j).full = true → j ≠ i → ∀ d, d ≤ way n (h (T j).key % n) j → (T (nx n (h (T j).key % n) d)).full = true
 seg : ∀ j, j < n → (T j).full = true → j ≠ i → way n i j < way n i k → way n (h (T j).key % n) j < way n i j
 full : ∀ e, e < way n i k → (T (nx n i e)).full = true
theorem Hole.start (H : TabOk h T n st) (hi : i < n) (hf : (T i).full = true) : Hole h T n i (nx n i 1) (ixDrop st (T i).key) := by
 obtain ⟨f, hf1, hf2⟩ := H.free
 have hfi : f ≠ i := fun e => by rw [e, hf] at hf2; cases hf2
 have hn : 1 < n := by omega
 have hw : way n i (nx n i 1) = 1 := way_nx hi hn
 have e1 : ent (T i) = [((T i).key, (T i).pos)] := by simp [ent, hf]
 have h1 : st.Perm (((T i).key, (T i).pos) :: ents (setT T i Sl.zero) n) := by
  have := H.perm.symm.trans (ents_take hi)
  rwa [e1] at this
 refine ⟨hi, nx_lt hi (by omega), ?_, hf, ?_, ixDrop_nodup H.nd, H.hash, fun j hj hfj _ => H.path j hj hfj, fun j hj hfj hji hlt => ?_, fun e he => ?_⟩
 ·have := nx_c n i 1; omega
 ·refine List.Perm.trans ?_ (ixDrop_perm h1).symm
  rw [ixDrop_cons ((h1.map (·.1)).nodup_iff.1 H.nd)]
 ·rw [hw] at hlt
  have h2 := way_c n i j
  omega
 ·rw [hw] at he
  have : e = 0 := by omega
  rw [this, nx_zero hi]; exact hf
theorem Hole.far (H : Hole h T n i k st) (hfn : f < n) (hff : (T f).full = false) (hk : (T k).full = true) : way n i k + 1 < n ∧ way n i (nx n k 1) = way n i k + 1 := by
 have hw := way_lt H.hi H.hk
 have hx := nx_way H.hi H.hk
 have h1 : way n i k + 1 < n := by
  refine Classical.byContradiction fun hh => ?_
  have hwf := way_lt H.hi hfn
  rcases Nat.lt_or_ge (way n i f) (way n i k) with h1 | h1
  ·have := H.full _ h1
   rw [nx_way H.hi hfn, hff] at this; cases this
  ·have e : way n i f = way n i k := by omega
   have := nx_way H.hi hfn
   rw [e, hx] at this
   rw [this, hff] at hk; cases hk
 refine ⟨h1, ?_⟩
 have := way_c n i k
 have := nx_c n k 1
 have := way_c n i (nx n k 1)
 have := H.hi
 have := H.hk
 omega
theorem Hole.stay (H : Hole h T n i k st) (hfn : f < n) (hff : (T f).full = false) (hk : (T k).full = true) (hno : way n (h (T k).key % n) k < way n i k) : Hole h T n i (nx n k 1) st := by
 obtain ⟨h1, h2⟩ := H.far hfn hff hk
 refine ⟨H.hi, nx_lt H.hk (by omega), ?_, H.stale, H.perm, H.nd, H.hash, H.path, fun j hj hfj hji hlt => ?_, fun e he => ?_⟩
 ·intro e
  rw [← e, way_self] at h2; omega
 ·rw [h2] at hlt
  rcases Nat.lt_or_ge (way n i j) (way n i k) with h3 | h3
  ·exact H.seg j hj hfj hji h3
  ·have e : way n i j = way n i k := by omega
   have e2 : j = k := by rw [← nx_way H.hi hj, e, nx_way H.hi H.hk]
   subst e2
   exact hno
 ·rw [h2] at he
  rcases Nat.lt_or_ge e (way n i k) with h3 | h3
  ·exact H.full e h3
  ·have : e = way n i k := by omega
   rw [this, nx_way H.hi H.hk]; exact hk
theorem Hole.move (H : Hole h T n i k st) (hfn : f < n) (hff : (T f).full = false) (hk : (T k).full = true) (hyes : way n i k ≤ way n (h (T k).key % n) k) : Hole h (setT T i (T k)) n k (nx n k 1) st := by
 have hn : 0 < n := by omega
 have hfull : ∀ j, (setT T i (T k) j).full = (T j).full := fun j => by
  unfold setT; split
  ·rename_i e; rw [e, H.stale, hk]
  ·rfl
 have hfk : f ≠ k := fun e => by rw [e, hk] at hff; cases hff
 have hn1 : 1 < n := by have := H.hk; omega
 have hw1 : way n k (nx n k 1) = 1 := way_nx H.hk hn1
 have hki : k ≠ i := Ne.symm H.ik
 refine ⟨H.hk, nx_lt H.hk (by omega), ?_, by rw [hfull]; exact hk, ?_, H.nd, fun j hj hfj => ?_, fun j hj hfj hjk d hd => ?_, fun j hj hfj hjk hlt => ?_, fun e he => ?_⟩
 ·have := nx_c n k 1; have := H.hk; omega
 ·refine List.Perm.trans ?_ H.perm
  have p1 := ents_take (T := setT (setT T i (T k)) k Sl.zero) H.hi
  have p2 := ents_take (T := setT T i Sl.zero) H.hk
  have e1 : setT (setT T i (T k)) k Sl.zero i = T k := by rw [setT_ne _ _ H.ik, setT_at]
  have e2 : setT T i Sl.zero k = T k := setT_ne _ _ hki
  have e3 : setT (setT (setT T i (T k)) k Sl.zero) i Sl.zero = setT (setT T i Sl.zero) k Sl.zero := by
   funext j; unfold setT
   by_cases a : j = i
   ·have : j ≠ k := fun b => hki (b.symm.trans a)
    simp [a, H.ik]
   ·simp [a]
  rw [e1, e3] at p1
  rw [e2] at p2
  exact p1.trans p2.symm
 ·by_cases e : j = i
  ·subst e; rw [setT_at]; exact H.hash k H.hk hk
  ·rw [setT_ne _ _ e] at hfj ⊢; exact H.hash j hj hfj
 ·rw [hfull]
  by_cases e : j = i
  ·subst e
   rw [setT_at] at hd ⊢
   refine H.path k H.hk hk hki d ?_
   have hm := Nat.mod_lt (h (T k).key) hn
   generalize h (T k).key % n = m at hm hd hyes ⊢
   have := way_c n m j
   have := way_c n m k
   have := way_c n j k
   have := H.hi
   have := H.hk
   omega
  ·rw [hfull] at hfj
   rw [setT_ne _ _ e] at hd ⊢
   exact H.path j hj hfj e d hd
 ·rw [hw1] at hlt
  have := way_c n k j
  have := H.hk
  omega
 ·rw [hw1] at he
  have : e = 0 := by omega
  rw [this, nx_zero H.hk, hfull]; exact hk
theorem Hole.done (H : Hole h T n i k st) (hk : (T k).full = false) : TabOk h (setT T i Sl.zero) n st := by
 have hn : 0 < n := by have := H.hi; omega
 have hf : ∀ j, (setT T i Sl.zero j).full = true → j ≠ i ∧ (T j).full = true := fun j hj => by
  unfold setT at hj
  split at hj
  ·cases hj
  ·rename_i e; exact ⟨e, hj⟩
 refine ⟨H.perm, H.nd, fun j hj hfj => ?_, fun j hj hfj d hd => ?_, ?_⟩
 ·obtain ⟨e, h1⟩ := hf j hfj
  rw [setT_ne _ _ e]; exact H.hash j hj h1
 ·obtain ⟨e, h1⟩ := hf j hfj
  rw [setT_ne _ _ e] at hd ⊢
  have hp := H.path j hj h1 e
  have hm := Nat.mod_lt (h (T j).key) hn
  by_cases hx : nx n (h (T j).key % n) d = i
  ·exfalso
   have hs := H.seg j hj h1 e
   generalize h (T j).key % n = m at hp hs hd hx hm
   have hlt : way n i j < way n i k := by
    refine Classical.byContradiction fun hh => ?_
    have hlast := hp (d + way n i k) (by
     have := way_c n m j
     have := way_c n i j
     have := nx_c n m d
     have := H.hi
     omega)
    have e3 : nx n m (d + way n i k) = k := by
     have := nx_c n m (d + way n i k)
     have := way_c n i k
     have := way_c n i j
     have := way_c n m j
     have := nx_c n m d
     have := H.hi
     have := H.hk
     omega
    rw [e3, hk] at hlast; cases hlast
   have := hs hlt
   have := way_c n m j
   have := way_c n i j
   have := nx_c n m d
   have := H.hi
   omega
  ·rw [setT_ne _ _ hx]; exact hp d hd
 ·rw [← H.perm.length_eq]
  refine Classical.byContradiction fun hh => ?_
  have h1 := ents_len (setT T i Sl.zero) n
  have h2 := (ents_take (T := setT T i Sl.zero) H.hi).length_eq
  rw [setT_at, setT_two] at h2
  have h3 := (ents_take (T := setT (setT T i Sl.zero) k ⟨⟨#[]⟩, 0, 0, true⟩) H.hk).length_eq
  rw [setT_at, setT_two] at h3
  have h4 := ents_len (setT (setT T i Sl.zero) k ⟨⟨#[]⟩, 0, 0, true⟩) n
  have h5 := (ents_take (T := setT T i Sl.zero) H.hk).length_eq
  rw [setT_ne _ _ (Ne.symm H.ik)] at h5
  simp [ent, hk] at h5 h3
  omega
end
end Go.Proofs.YticophaepapjoaaGreatDoor
namespace Go.Proofs.YticophaepapjoaaGreatDoor
open Go Go.RowKit Go.Joins
def tabV (T : Tab) (m : Nat) : Value :=
 if m % 4 = 0 then .string (T (m / 4)).key else if m % 4 = 1 then .int .u64 (T (m / 4)).hash else if m % 4 = 2 then .int .i64 (T (m / 4)).pos else .bool (T (m / 4)).full
structure TabAt (w : World) (g n : Nat) (T : Tab) : Prop where
 cell : ∀ m, m < 4 * n → w.cell? ⟨g, m, none⟩ = some (tabV T m)
 ice : ∀ m, w.frozen? ⟨g, m, none⟩ = false
 lt : g < w.heap.size
section
variable {w w' : World} {g n i : Nat} {T : Tab} {G : Nat → Prop}
theorem TabAt.c0 (h : TabAt w g n T) (hi : i < n) : w.cell? ⟨g, i * 4, none⟩ = some (.string (T i).key) := by
 have := h.cell (i * 4) (by omega)
 rwa [tabV, if_pos (by omega), Nat.mul_div_cancel _ (by decide)] at this
theorem TabAt.c1 (h : TabAt w g n T) (hi : i < n) : w.cell? ⟨g, i * 4 + 1, none⟩ = some (.int .u64 (T i).hash) := by
 have := h.cell (i * 4 + 1) (by omega)
 rwa [tabV, if_neg (by omega), if_pos (by omega), show (i * 4 + 1) / 4 = i by omega] at this
theorem TabAt.c2 (h : TabAt w g n T) (hi : i < n) : w.cell? ⟨g, i * 4 + 2, none⟩ = some (.int .i64 (T i).pos) := by
 have := h.cell (i * 4 + 2) (by omega)
 rwa [tabV, if_neg (by omega), if_neg (by omega), if_pos (by omega), show (i * 4 + 2) / 4 = i by omega] at this
theorem TabAt.c3 (h : TabAt w g n T) (hi : i < n) : w.cell? ⟨g, i * 4 + 3, none⟩ = some (.bool (T i).full) := by
 have := h.cell (i * 4 + 3) (by omega)
 rwa [tabV, if_neg (by omega), if_neg (by omega), if_neg (by omega), show (i * 4 + 3) / 4 = i by omega] at this
theorem TabAt.keep (h : TabAt w g n T) (hk : Keeps G w w') (hg : G g) : TabAt w' g n T :=
 ⟨fun m hm => hk.cell (h.cell m hm) hg, fun m => by rw [hk.frozen (p := ⟨g, m, none⟩) h.lt hg]; exact h.ice m, Nat.lt_of_lt_of_le h.lt hk.size⟩
theorem TabAt.store (h : TabAt w g n T) (hi : i < n) (s : Sl) : TabAt ((((w.setCell ⟨g, i * 4, none⟩ (.string s.key)).setCell ⟨g, i * 4 + 1, none⟩ (.int .u64 s.hash)).setCell ⟨g, i * 4 + 2, none⟩ (.int .i64 s.pos)).setCell ⟨g, i * 4 + 3, none⟩ (.bool s.full)) g n (setT T i s) := by
 refine ⟨fun m hm => ?_, fun m => ?_, by simpa using h.lt⟩
 ·have oth : ∀ (W : World) (a b : Nat) (v : Value), a ≠ b → (W.setCell ⟨g, a, none⟩ v).cell? ⟨g, b, none⟩ = W.cell? ⟨g, b, none⟩ := fun W a b v hab => World.cell?_setCell_other _ _ _ _ (fun e => hab (by injection e))
  have h0 := h.c0 hi
  have h1 := h.c1 hi
  have h2 := h.c2 hi
  have h3 := h.c3 hi
  by_cases e : m / 4 = i
  ·have hT : setT T i s (m / 4) = s := by rw [e]; exact setT_at T i s
   unfold tabV
   rw [hT]
   by_cases e0 : m % 4 = 0
   ·obtain rfl : m = i * 4 := by omega
    rw [if_pos e0, oth _ (i * 4 + 3) _ _ (by omega), oth _ (i * 4 + 2) _ _ (by omega), oth _ (i * 4 + 1) _ _ (by omega)]
    exact World.cell?_setCell_same _ _ _ h0
   ·rw [if_neg e0]
    by_cases e1 : m % 4 = 1
    ·obtain rfl : m = i * 4 + 1 := by omega
     rw [if_pos e1, oth _ (i * 4 + 3) _ _ (by omega), oth _ (i * 4 + 2) _ _ (by omega)]
     refine World.cell?_setCell_same (u := .int .u64 (T i).hash) _ _ _ ?_
     rw [oth _ (i * 4) _ _ (by omega)]; exact h1
    ·rw [if_neg e1]
     by_cases e2 : m % 4 = 2
     ·obtain rfl : m = i * 4 + 2 := by omega
      rw [if_pos e2, oth _ (i * 4 + 3) _ _ (by omega)]
      refine World.cell?_setCell_same (u := .int .i64 (T i).pos) _ _ _ ?_
      rw [oth _ (i * 4 + 1) _ _ (by omega), oth _ (i * 4) _ _ (by omega)]; exact h2
     ·obtain rfl : m = i * 4 + 3 := by omega
      rw [if_neg e2]
      refine World.cell?_setCell_same (u := .bool (T i).full) _ _ _ ?_
      rw [oth _ (i * 4 + 2) _ _ (by omega), oth _ (i * 4 + 1) _ _ (by omega), oth _ (i * 4) _ _ (by omega)]; exact h3
  ·rw [oth _ (i * 4 + 3) _ _ (by omega), oth _ (i * 4 + 2) _ _ (by omega), oth _ (i * 4 + 1) _ _ (by omega), oth _ (i * 4) _ _ (by omega), h.cell m hm]
   unfold tabV
   rw [setT_ne _ _ e]
 ·rw [World.frozen?_setCell, World.frozen?_setCell, World.frozen?_setCell, World.frozen?_setCell]; exact h.ice m
end
def IxBlk (w : World) (q : Nat) (V : Value) (c : Nat) : Prop := w.heap[q]? = some (.cells #[V, .int .i64 (c : Int)] 129 (0, 0))
structure IxAt (w : World) (q g n c : Nat) (T : Tab) : Prop where
 blk : IxBlk w q (.slice (some ⟨g, 0, none⟩) n n) c
 tab : TabAt w g n T
 ne : g ≠ q
section
variable {w w' : World} {q g n c i : Nat} {T : Tab} {G : Nat → Prop} {V : Value}
theorem IxBlk.keep (h : IxBlk w q V c) (hk : Keeps G w w') (hq : G q) : IxBlk w' q V c := (hk.block q hq (Array.getElem?_eq_some_iff.1 h).1).trans h
theorem IxBlk.lt (h : IxBlk w q V c) : q < w.heap.size := (Array.getElem?_eq_some_iff.1 h).1
theorem IxBlk.c0 (h : IxBlk w q V c) : w.cell? ⟨q, 0, none⟩ = some V := (cell_of_block h 0).trans rfl
theorem IxBlk.c1 (h : IxBlk w q V c) : w.cell? ⟨q, 1, none⟩ = some (.int .i64 (c : Int)) := (cell_of_block h 1).trans rfl
theorem IxBlk.f0 (h : IxBlk w q V c) (i : Nat) : w.frozen? ⟨q, i, none⟩ = false := unfrozen_of_block h i
theorem IxBlk.set0 (h : IxBlk w q V c) (V' : Value) : IxBlk (w.setCell ⟨q, 0, none⟩ V') q V' c := (block_setCell h V').trans rfl
theorem IxBlk.set1 (h : IxBlk w q V c) (c' : Nat) : IxBlk (w.setCell ⟨q, 1, none⟩ (.int .i64 (c' : Int))) q V c' := (block_setCell h _).trans rfl
theorem IxAt.keep (h : IxAt w q g n c T) (hk : Keeps G w w') (hq : G q) (hg : G g) : IxAt w' q g n c T := ⟨h.blk.keep hk hq, h.tab.keep hk hg, h.ne⟩
end
theorem modN_cast (h n : Nat) : ((h : Int).tmod (n : Int)) = ((h % n : Nat) : Int) := by
 rw [Int.tmod_eq_emod_of_nonneg (by omega)]; rfl
theorem home_any (w : World) (q g n c : Nat) (T : Tab) (hI : IxAt w q g n c T) (h0 : 0 < n) (hn : n ≤ 1099511627776) (h : Nat) (_hh : h < 18446744073709551616) :
  Calls Tryz.prog 100 #[.pointer (some ⟨q, 0, none⟩), .int .u64 (h : Int)] w fun e w' => e = .returned (.int .i64 ((h % n : Nat) : Int)) ∧ w' = w := by
 have c0 := hI.blk.c0
 have hm := modN_cast h n
 have hl := Nat.mod_lt h h0
 obtain ⟨r, hr⟩ : ∃ r, h % n = r := ⟨_, rfl⟩
 rw [hr] at hm hl ⊢
 have e2 : ((h : Int) % (n : Int)) = (r : Int) := by rw [← hr]; rfl
 clear hI hr
 go_enter Tryz.func100, Tryz.ntmps100
 go_wp2_with fail
 go_ret
 exact ⟨rfl, rfl⟩
theorem ixbehind_any (w : World) (q g n c : Nat) (T : Tab) (hI : IxAt w q g n c T) (i : Nat) (hi : i < n) (hn : n ≤ 1099511627776) :
  Calls Tryz.prog 101 #[.pointer (some ⟨q, 0, none⟩), .int .i64 (i : Int)] w fun e w' => e = .returned (.int .i64 ((nx n i 1 : Nat) : Int)) ∧ w' = w := by
 have c0 := hI.blk.c0
 have hm : (((i : Int) + 1).tmod (n : Int)) = ((nx n i 1 : Nat) : Int) := by
  rw [show (i : Int) + 1 = ((i + 1 : Nat) : Int) by omega, modN_cast]
  congr 1
  rcases nx_c n i 1 with ⟨h1, h2⟩ | ⟨h1, h2⟩
  ·rw [h2, Nat.mod_eq_of_lt h1]
  ·rw [h2, show i + 1 = n by omega, Nat.mod_self]; omega
 have e2 : (((i : Int) + 1) % (n : Int)) = ((nx n i 1 : Nat) : Int) := by rw [← hm, Int.tmod_eq_emod_of_nonneg (by omega)]
 generalize nx n i 1 = r at *
 clear hI
 go_enter Tryz.func101, Tryz.ntmps101
 go_wp2_with fail
 go_ret
 exact ⟨rfl, rfl⟩
theorem way_any (w : World) (q g n c : Nat) (T : Tab) (hI : IxAt w q g n c T) (i k : Nat) (hi : i < n) (hk : k < n) (hn : n ≤ 1099511627776) :
  Calls Tryz.prog 173 #[.pointer (some ⟨q, 0, none⟩), .int .i64 (i : Int), .int .i64 (k : Int)] w fun e w' => e = .returned (.int .i64 ((way n i k : Nat) : Int)) ∧ Kp w w' := by
 have c0 := hI.blk.c0
 have hm : (((k : Int) - (i : Int) + (n : Int)).tmod (n : Int)) = ((way n i k : Nat) : Int) := by
  rw [show (k : Int) - (i : Int) + (n : Int) = ((k + n - i : Nat) : Int) by omega, modN_cast]
  congr 1
  rcases way_c n i k with ⟨h1, h2⟩ | ⟨h1, h2⟩
  ·rw [h2, show k + n - i = (k - i) + n by omega, Nat.add_mod_right, Nat.mod_eq_of_lt (by omega)]
  ·rw [h2, Nat.mod_eq_of_lt (by omega)]
 have e2 : (((k : Int) - (i : Int) + (n : Int)) % (n : Int)) = ((way n i k : Nat) : Int) := by rw [← hm, Int.tmod_eq_emod_of_nonneg (by omega)]
 generalize way n i k = r at *
 clear hI
 go_enter Tryz.func173, Tryz.ntmps173
 go_wp2_with fail
 go_region
 go_wp2_with fail
 go_ret
 exact ⟨rfl, (Keeps.refl _ _).drew⟩
end Go.Proofs.YticophaepapjoaaGreatDoor
