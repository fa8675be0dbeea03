/-
  SuperOpen, SlogIf, Slog2, IxTab: texts of mine, joined.
-/
import Derived.Test.YticophaepapjoaaGreatDoorAllA13
import Derived.Test.YticophaepapjoaaGreatDoorAllA10
import Derived.Test.YticophaepapjoaaGreatDoorAllA03
import Derived.Lib.SmallJoins
import Derived.Test.YticophaepapjoaaGreatDoorAllA12
namespace Go.Proofs.YticophaepapjoaaGreatDoor
open Go Go.RowKit Go.Joins
def recT : Option (Nat × List UInt8) → Nat × List UInt8
 | none => (0, [])
 | some r => r
theorem recV_is (o : Option (Nat × List UInt8)) : recV o = .agg #[.int .i64 ((recT o).1 : Int), .string (txt (recT o).2)] := by
 cases o <;> rfl
theorem decS_wf {l : List UInt8} {t : Nat} {x : List UInt8} (h : decS l = some (t, x)) : 1 ≤ t ∧ t ≤ 1099511627776 ∧ x.length ≤ 40 := by
 unfold decS at h
 cases hf : decF 83 l with
 | none => rw [hf] at h; cases h
 | some r =>
  rw [hf] at h
  obtain ⟨t', x'⟩ := r
  unfold takeS at h
  simp only at h
  split at h
  ·cases h
  ·injection h with h
   injection h with h3 h4
   subst h3; subst h4
   omega
theorem recT_le (l : List UInt8) : (recT (decS l)).1 ≤ 1099511627776 := by
 cases h : decS l with
 | none => exact Nat.zero_le _
 | some r => exact (decS_wf (t := r.1) (x := r.2) h).2.1
theorem blk_new (w : World) (n q p lat sp t : Nat) (x : List UInt8) (z : Int) (hz : z = (lat : Int)) (z2 : Int) (hz2 : z2 = (sp : Int)) (z3 : Int) (hz3 : z3 = (t : Int)) (hn : n = w.heap.size) (hq : q = n) : SBlk (w.alloc (.cells #[.int .i64 z3, .string (txt x), .pointer (some ⟨p, 0, none⟩), .int .i64 z, .int .i64 z2] 143)) q p lat sp t x := by
 subst hz hz2 hz3 hn hq
 exact heap_alloc_new w _
def SuperOpenPost (w : World) (p i t1 t2 : Nat) (x1 x2 : List UInt8) (e : Ending) (w' : World) : Prop :=
 (t2 ≤ t1 ∧ 1 ≤ t1 ∧ ∃ q, e = .returned (.tuple #[.pointer (some ⟨q, 0, none⟩), .int .i64 0]) ∧ SBlk w' q p i (i + 1) t1 x1 ∧ w.heap.size ≤ q ∧ Keeps (fun _ => True) w w') ∨
 (t1 < t2 ∧ ∃ q, e = .returned (.tuple #[.pointer (some ⟨q, 0, none⟩), .int .i64 0]) ∧ SBlk w' q p (i + 1) i t2 x2 ∧ w.heap.size ≤ q ∧ Keeps (fun _ => True) w w') ∨
 (t1 = 0 ∧ t2 = 0 ∧ e = .returned (.tuple #[.pointer none, .int .i64 3]) ∧ Keeps (fun _ => True) w w')
set_option maxRecDepth 100000 in
set_option maxHeartbeats 2000000 in
theorem sopen_any (w : World) (hT : Taken w) (p : Nat) (F : Foot) (s : SDev) (h : DAt w p F s) (i : Nat) (hi : i + 2 ≤ s.now.length) :
  Calls Tryz.prog 82 #[.pointer (some ⟨p, 0, none⟩), .int .i64 (i : Int)] w (SuperOpenPost w p i (recT (decS (s.now.getD i []))).1 (recT (decS (s.now.getD (i + 1) []))).1 (recT (decS (s.now.getD i []))).2 (recT (decS (s.now.getD (i + 1) []))).2) := by
 have hsm := h.ok.small
 have hi1 : i ≤ 2048 := by omega
 have HL1 := Lib.hid (load_any w hT p F s h i (by omega))
 have HL2 := Lib.hid (fun w' (hk : Keeps (fun _ => True) w w') => load_any w' (hT.keep hk) p F s (h.keep (hk.mono fun _ _ _ => trivial)) (i + 1) (by omega))
 have HTH := Lib.hid (there_yes w p F s h i hi)
 have ht1 := recT_le (s.now.getD i [])
 have ht2 := recT_le (s.now.getD (i + 1) [])
 simp only [recV_is] at HL1 HL2
 generalize (recT (decS (s.now.getD i []))) = r1 at *
 generalize (recT (decS (s.now.getD (i + 1) []))) = r2 at *
 obtain ⟨t1, x1⟩ := r1
 obtain ⟨t2, x2⟩ := r2
 simp only at *
 clear h hT hi hsm
 go_enter Tryz.func82, Tryz.ntmps82
 go_wp2_with fail
 refine HTH.out.mono ?_
 rintro e w' ⟨rfl, rfl⟩
 go_wp2_with fail
 refine HL1.out.mono ?_
 rintro e w1 ⟨rfl, hk1⟩
 have HK1 := Lib.hid hk1
 have HL2' := Lib.hid (HL2.out w1 hk1)
 clear hk1 HL2 HL1 HTH
 go_wp2_with fail
 refine (show Calls _ _ _ _ _ from HL2'.out).mono ?_
 rintro e w2 ⟨rfl, hk2⟩
 have HK2 := Lib.hid (HK1.out.trans hk2)
 clear hk2 HL2' HK1
 have hcs : (decide (t1 < t2) = false ∧ ((t1 : Int) == 0) = false ∧ t2 ≤ t1 ∧ 1 ≤ t1) ∨ (decide (t1 < t2) = true ∧ ((t2 : Int) == 0) = false ∧ t1 < t2) ∨ (decide (t1 < t2) = false ∧ ((t1 : Int) == 0) = true ∧ t1 = 0 ∧ t2 = 0) := by
  by_cases h : t1 < t2
  ·right; left; exact ⟨by simpa using h, by simp; omega, h⟩
  ·by_cases h0 : t1 = 0
   ·right; right; exact ⟨by simpa using h, by simp; omega, h0, by omega⟩
   ·left; exact ⟨by simpa using h, by simp; omega, by omega, by omega⟩
 have HFIN := Lib.hid (show ∀ C, Keeps (fun _ => True) w ((((w2.alloc (.cells #[.int .i64 (t1 : Int), .string (txt x1)] 141)).alloc (.cells #[.int .i64 (t2 : Int), .string (txt x2)] 141)).alloc C)) from fun C => ((HK2.out.alloc _).alloc _).alloc C)
 rcases hcs with ⟨b1, b2, b3⟩ | ⟨b1, b2, b3⟩ | ⟨b1, b2, b3⟩
 ·have HC := Lib.hid b3
  clear b3
  go_wp2_with fail
  go_ret2
  exact .inl ⟨HC.out.1, HC.out.2, _, rfl, blk_new _ _ _ p i (i + 1) t1 x1 _ rfl _ (by omega) _ rfl rfl (by simp), by have := HK2.out.size; omega, HFIN.out _⟩
 ·have HC := Lib.hid b3
  clear b3
  go_wp2_with fail
  go_ret2
  exact .inr (.inl ⟨HC.out, _, rfl, blk_new _ _ _ p (i + 1) i t2 x2 _ (by omega) _ rfl _ rfl rfl (by simp), by have := HK2.out.size; omega, (HFIN.out _).alloc _⟩)
 ·have HC := Lib.hid b3
  clear b3
  go_wp2_with fail
  go_ret2
  exact .inr (.inr ⟨HC.out.1, HC.out.2, rfl, HFIN.out _⟩)
def RecsAt (w : World) (A : Option Addr) (G : Nat → Prop) (l : List (Nat × List UInt8)) : Prop :=
 l ≠ [] → ∃ b o, A = some ⟨b, o, none⟩ ∧ G b ∧ ∀ i (hi : i < l.length), w.cell? ⟨b, o + i * 2, none⟩ = some (.int .i64 ((l[i].1 : Nat) : Int)) ∧
  ∃ B c, w.cell? ⟨b, o + i * 2 + 1, none⟩ = some (.slice B l[i].2.length c) ∧ Row w B G (bcells l[i].2)
structure SlogOK where
 T : World → Prop
 tk : ∀ {w w' : World}, T w → Keeps (fun _ => True) w w' → T w'
 rep : World → Nat → Foot → LSt → SDev → Prop
 disk : LSt → List (List UInt8) → Prop
 wf : ∀ {w q F st s}, rep w q F st s → st.Ok
 lt : ∀ {w q F st s}, rep w q F st s → ∀ b, F.all b → b < w.heap.size
 keep : ∀ {w w' q F st s}, rep w q F st s → Keeps F.all w w' → rep w' q F st s
 other : ∀ {w q F st s s'}, rep w q F st s → s'.now.length = s.now.length → (∀ i, st.has i → s'.now.getD i [] = s.now.getD i []) → rep w q F st s'
 diskKeep : ∀ {st rows rows'}, disk st rows → rows'.length = rows.length → (∀ i, st.has i → rows'.getD i [] = rows.getD i []) → disk st rows'
 openNew : ∀ (w : World) (p : Nat) (F : Foot) (s : SDev), DAt w p F s → T w → ∀ (i n : Nat), 3 ≤ n → n ≤ 200 → i + 8 * n ≤ s.now.length → (∀ j, i ≤ j → j < i + 8 * n → s.now.getD j [] = blank) →
  Calls Tryz.prog 96 #[.pointer (some ⟨p, 0, none⟩), .int .i64 i, .int .i64 n] w fun e w' => ∃ (q : Nat) (Fs : Foot) (f x : Nat), e = .returned (.tuple #[.pointer (some ⟨q, 0, none⟩), .int .i64 0]) ∧
   rep w' q Fs ⟨p, i, n, [], 0, f, x⟩ s ∧ x ≤ 1048576 ∧ (∀ b, Fs.all b → w.heap.size ≤ b) ∧ Keeps (fun _ => True) w w'
 openOld : ∀ (w : World) (p : Nat) (F : Foot) (s : SDev) (st : LSt), DAt w p F s → T w → disk st s.now → st.place + 8 * st.segs ≤ s.now.length → st.next ≤ 137438953472 →
  Calls Tryz.prog 96 #[.pointer (some ⟨p, 0, none⟩), .int .i64 st.place, .int .i64 st.segs] w fun e w' => ∃ (q : Nat) (Fs : Foot) (f x : Nat), e = .returned (.tuple #[.pointer (some ⟨q, 0, none⟩), .int .i64 0]) ∧
   rep w' q Fs ⟨p, st.place, st.segs, opened st.hist, st.gone, f, x⟩ s ∧ x ≤ st.next + 1048576 ∧ (∀ b, Fs.all b → w.heap.size ≤ b) ∧ Keeps (fun _ => True) w w'
 append : ∀ (W w : World) (p q : Nat) (F Fs : Foot) (s : SDev) (st : LSt), DAt w p F s → rep w q Fs st s → st.dev = p → Apart F Fs → T W → Keeps (fun _ => True) W w → (∀ b, F.all b → W.heap.size ≤ b) → (∀ b, Fs.all b → W.heap.size ≤ b) → st.place + 8 * st.segs ≤ s.now.length → s.calls ≤ 549755813888 → st.next ≤ 137438953472 →
  ∀ (A : Option Addr) (c : Nat) (G : Nat → Prop) (l : List UInt8), Row w A G (bcells l) → (∀ b, G b → ¬ F.all b) → (∀ b, G b → ¬ Fs.all b) → l.length ≤ c → c ≤ maxLen → 1 ≤ l.length → l.length ≤ 300 →
  Calls Tryz.prog 71 #[.pointer (some ⟨q, 0, none⟩), .slice A l.length c] w fun e w' => ∃ (x : Nat) (F' Fs' : Foot) (s' : SDev) (g f n : Nat), e = .returned (.tuple #[.int .i64 (x : Int), .int .i64 0]) ∧ DAt w' p F' s' ∧ rep w' q Fs' ⟨p, st.place, st.segs, st.hist ++ [⟨x, l, 0⟩], g, f, n⟩ s' ∧ st.gone ≤ g ∧ st.next ≤ x ∧ n ≤ st.next + 1048576 ∧
   s'.now.length = s.now.length ∧ (∀ i, ¬ st.has i → s'.now.getD i [] = s.now.getD i []) ∧ s'.calls ≤ s.calls + 1000 ∧
   Apart F' Fs' ∧ Keeps (fun b => ¬ F.M b ∧ ¬ Fs.M b) w w' ∧ (∀ b, F'.M b → F.M b ∨ w.heap.size ≤ b) ∧ (∀ b, F'.I b → F.all b ∨ w.heap.size ≤ b) ∧ (∀ b, Fs'.M b → Fs.M b ∨ w.heap.size ≤ b) ∧ (∀ b, Fs'.I b → Fs.all b ∨ w.heap.size ≤ b)
 flush : ∀ (W w : World) (p q : Nat) (F Fs : Foot) (s : SDev) (st : LSt), DAt w p F s → rep w q Fs st s → st.dev = p → Apart F Fs → T W → Keeps (fun _ => True) W w → (∀ b, F.all b → W.heap.size ≤ b) → (∀ b, Fs.all b → W.heap.size ≤ b) → st.place + 8 * st.segs ≤ s.now.length → s.calls ≤ 549755813888 →
  Calls Tryz.prog 46 #[.pointer (some ⟨q, 0, none⟩)] w fun e w' => e = .returned (.int .i64 0) ∧ ∃ (F' Fs' : Foot) (rows : List (List UInt8)) (k : Nat), DAt w' p F' (SDev.still rows k) ∧ rep w' q Fs' st (SDev.still rows k) ∧ disk st rows ∧
   rows.length = s.now.length ∧ (∀ i, ¬ st.has i → rows.getD i [] = s.now.getD i []) ∧ k ≤ s.calls + 1000 ∧
   Apart F' Fs' ∧ Keeps (fun b => ¬ F.M b ∧ ¬ Fs.M b) w w' ∧ (∀ b, F'.M b → F.M b ∨ w.heap.size ≤ b) ∧ (∀ b, F'.I b → F.all b ∨ w.heap.size ≤ b) ∧ (∀ b, Fs'.M b → Fs.M b ∨ w.heap.size ≤ b) ∧ (∀ b, Fs'.I b → Fs.all b ∨ w.heap.size ≤ b)
 read : ∀ (w : World) (p q : Nat) (F Fs : Foot) (s : SDev) (st : LSt), DAt w p F s → rep w q Fs st s → st.dev = p → Apart F Fs → T w → st.place + 8 * st.segs ≤ s.now.length → ∀ (x : Nat) (l : List UInt8), (x, l) ∈ st.recs →
  Calls Tryz.prog 85 #[.pointer (some ⟨q, 0, none⟩), .int .i64 (x : Int)] w fun e w' => ∃ A c, e = .returned (.tuple #[.slice A l.length c, .int .i64 0]) ∧ l.length ≤ c ∧ c ≤ maxLen ∧ Row w' A (fun b => w.heap.size ≤ b ∧ b < w'.heap.size) (bcells l) ∧ Mine w' .u8 A l.length ∧ Keeps (fun _ => True) w w'
theorem costs_append (a b : List LRec) : costs (a ++ b) = costs a + costs b := by simp [costs]
def RecsC (w : World) (A : Option Addr) (G : Nat → Prop) (l : List (Nat × List UInt8)) : Prop :=
 l ≠ [] → ∃ b o, A = some ⟨b, o, none⟩ ∧ G b ∧ ∀ i (hi : i < l.length), w.cell? ⟨b, o + i * 2, none⟩ = some (.int .i64 ((l[i].1 : Nat) : Int)) ∧
  ∃ B c, w.cell? ⟨b, o + i * 2 + 1, none⟩ = some (.slice B l[i].2.length c) ∧ l[i].2.length ≤ c ∧ c ≤ maxLen ∧ Row w B G (bcells l[i].2)
structure Slog2 extends SlogOK where
 past : ∀ {w : World} {q : Nat} {F : Foot} {st : LSt} {s : SDev}, rep w q F st s → st.first ≤ st.next ∧ ∀ r ∈ st.hist.take st.gone, r.pos < st.first
 first2 : ∀ (w : World) (q : Nat) (F : Foot) (s : SDev) (st : LSt), rep w q F st s → Calls Tryz.prog 70 #[.pointer (some ⟨q, 0, none⟩)] w fun e w' => e = .returned (.int .i64 (st.first : Int)) ∧ w' = w
 all2 : ∀ (w : World) (p q : Nat) (F Fs : Foot) (s : SDev) (st : LSt), DAt w p F s → rep w q Fs st s → st.dev = p → T w → st.place + 8 * st.segs ≤ s.now.length →
  Calls Tryz.prog 97 #[.pointer (some ⟨q, 0, none⟩)] w fun e w' => ∃ A c, e = .returned (.slice A st.recs.length c) ∧ st.recs.length ≤ c ∧ c ≤ maxLen ∧ RecsC w' A (fun b => w.heap.size ≤ b ∧ b < w'.heap.size) st.recs ∧ Keeps (fun _ => True) w w'
 next2 : ∀ (w : World) (q : Nat) (F : Foot) (s : SDev) (st : LSt), rep w q F st s → Calls Tryz.prog 52 #[.pointer (some ⟨q, 0, none⟩)] w fun e w' => e = .returned (.int .i64 (st.next : Int)) ∧ w' = w
end Go.Proofs.YticophaepapjoaaGreatDoor
namespace Go.Proofs.YticophaepapjoaaGreatDoor
open Go Go.RowKit
structure TabOk (h : ByteArray → Nat) (T : Tab) (n : Nat) (st : IxSt) : Prop where
 perm : (ents T n).Perm st
 nd : (st.map (·.1)).Nodup
 hash : ∀ i, i < n → (T i).full = true → (T i).hash = (h (T i).key : Int)
 path : ∀ i, i < n → (T i).full = true → ∀ d, d ≤ way n (h (T i).key % n) i → (T (nx n (h (T i).key % n) d)).full = true
 room : st.length < n
section
variable {h : ByteArray → Nat} {T : Tab} {n i k d e f : Nat} {st : IxSt} {key : ByteArray} {p : Int}
theorem TabOk.pos (H : TabOk h T n st) : 0 < n := by have := H.room; omega
theorem TabOk.nde (H : TabOk h T n st) : ((ents T n).map (·.1)).Nodup := (H.perm.map (·.1)).nodup_iff.2 H.nd
theorem TabOk.free (H : TabOk h T n st) : ∃ f, f < n ∧ (T f).full = false := free_slot (by rw [H.perm.length_eq]; exact H.room)
theorem TabOk.of_perm {st' : IxSt} (H : TabOk h T n st) (hp : st.Perm st') : TabOk h T n st' :=
 ⟨H.perm.trans hp, (hp.map (·.1)).nodup_iff.1 H.nd, H.hash, H.path, by rw [← hp.length_eq]; exact H.room⟩
structure Seen (h : ByteArray → Nat) (T : Tab) (n : Nat) (key : ByteArray) (d i : Nat) : Prop where
 dn : d < n
 at_ : i = nx n (h key % n) d
 full : ∀ e, e < d → (T (nx n (h key % n) e)).full = true
 none : ∀ e, e < d → (T (nx n (h key % n) e)).key ≠ key
theorem Seen.start (hn : 0 < n) (key : ByteArray) : Seen h T n key 0 (h key % n) :=
 ⟨hn, (nx_zero (Nat.mod_lt _ hn)).symm, fun _ he => by omega, fun _ he => by omega⟩
theorem Seen.lt (S : Seen h T n key d i) : i < n := by
 rw [S.at_]
 exact nx_lt (Nat.mod_lt _ (by have := S.dn; omega)) (by have := S.dn; omega)
theorem Seen.way (S : Seen h T n key d i) : way n (h key % n) i = d := by
 rw [S.at_]
 exact way_nx (Nat.mod_lt _ (by have := S.dn; omega)) S.dn
theorem Seen.next (S : Seen h T n key d i) (hf : f < n) (hff : (T f).full = false) (hi : (T i).full = true) (hk : (T i).key ≠ key) : Seen h T n key (d + 1) (nx n i 1) := by
 have hn : 0 < n := by omega
 have hm := Nat.mod_lt (h key) hn
 have hd : d + 1 < n := by
  refine Classical.byContradiction fun hh => ?_
  have hw := way_lt hm hf
  have hx := nx_way hm hf
  rcases Nat.lt_or_ge (Go.Proofs.YticophaepapjoaaGreatDoor.way n (h key % n) f) d with h1 | h1
  ·have := S.full _ h1
   rw [hx, hff] at this; cases this
  ·have : Go.Proofs.YticophaepapjoaaGreatDoor.way n (h key % n) f = d := by have := S.dn; omega
   rw [this, ← S.at_] at hx
   rw [hx, hff] at hi; cases hi
 refine ⟨hd, ?_, fun e he => ?_, fun e he => ?_⟩
 ·rw [S.at_, nx_one hm hd]
 ·rcases Nat.lt_or_ge e d with h1 | h1
  ·exact S.full e h1
  ·have : e = d := by omega
   rw [this, ← S.at_]; exact hi
 ·rcases Nat.lt_or_ge e d with h1 | h1
  ·exact S.none e h1
  ·have : e = d := by omega
   rw [this, ← S.at_]; exact hk
theorem Seen.miss (S : Seen h T n key d i) (H : TabOk h T n st) (hi : (T i).full = false) : ixGet st key = Option.none := by
 rw [ixGet_none]
 intro x hx hk
 obtain ⟨j, hj, hfj, rfl⟩ := ents_of (H.perm.symm.subset hx)
 have hk : (T j).key = key := hk
 have hm := Nat.mod_lt (h key) H.pos
 have hp := H.path j hj hfj
 rw [hk] at hp
 rcases Nat.lt_or_ge (Go.Proofs.YticophaepapjoaaGreatDoor.way n (h key % n) j) d with h1 | h1
 ·have := S.none _ h1
  rw [nx_way hm hj] at this
  exact this hk
 ·have := hp d h1
  rw [← S.at_, hi] at this; cases this
theorem TabOk.hit (H : TabOk h T n st) (hi : i < n) (hf : (T i).full = true) (hk : (T i).key = key) : ixGet st key = some (T i).pos := by
 refine ixGet_of H.nd (H.perm.subset ?_)
 rw [← hk]
 exact ents_mem hi hf
theorem TabOk.again (H : TabOk h T n st) (hi : i < n) (hf : (T i).full = true) (p : Int) : TabOk h (setT T i ⟨(T i).key, (T i).hash, p, true⟩) n (ixPut st (T i).key p) := by
 have e1 : ent (T i) = [((T i).key, (T i).pos)] := by simp [ent, hf]
 have h1 : st.Perm (((T i).key, (T i).pos) :: ents (setT T i Sl.zero) n) := by
  have := H.perm.symm.trans (ents_take hi)
  rwa [e1] at this
 have hP : (ents (setT T i ⟨(T i).key, (T i).hash, p, true⟩) n).Perm (ixPut st (T i).key p) := by
  refine (ents_take hi).trans ?_
  rw [setT_at, setT_two]
  exact (ixPut_again h1 H.nd).symm
 have hfull : ∀ j, (setT T i ⟨(T i).key, (T i).hash, p, true⟩ j).full = (T j).full := fun j => by
  unfold setT; split
  ·rename_i e; rw [e, hf]
  ·rfl
 have hkey : ∀ j, (setT T i ⟨(T i).key, (T i).hash, p, true⟩ j).key = (T j).key := fun j => by
  unfold setT; split
  ·rename_i e; rw [e]
  ·rfl
 have hhash : ∀ j, (setT T i ⟨(T i).key, (T i).hash, p, true⟩ j).hash = (T j).hash := fun j => by
  unfold setT; split
  ·rename_i e; rw [e]
  ·rfl
 refine ⟨hP, ixPut_nodup H.nd, fun j hj hfj => ?_, fun j hj hfj d hd => ?_, ?_⟩
 ·rw [hfull] at hfj; rw [hhash, hkey]; exact H.hash j hj hfj
 ·rw [hfull] at hfj; rw [hkey] at hd ⊢; rw [hfull]; exact H.path j hj hfj d hd
 ·have hl := congrArg List.length (ixPut_keys st (T i).key p (by rw [H.hit hi hf rfl]; rfl))
  rw [List.length_map, List.length_map] at hl
  rw [hl]
  exact H.room
theorem TabOk.add (H : TabOk h T n st) (S : ∀ e, e < d → (T (nx n (h key % n) e)).full = true) (hd : d < n) (hi : i = nx n (h key % n) d) (hf : (T i).full = false) (hno : ixGet st key = none) (p : Int) (hroom : st.length + 1 < n) :
  TabOk h (setT T i ⟨key, (h key : Int), p, true⟩) n (st ++ [(key, p)]) := by
 have hm := Nat.mod_lt (h key) H.pos
 have hin : i < n := by rw [hi]; exact nx_lt hm (by omega)
 have hfull : ∀ j, (T j).full = true → (setT T i ⟨key, (h key : Int), p, true⟩ j).full = true := fun j hj => by
  unfold setT; split
  ·rfl
  ·exact hj
 refine ⟨?_, ?_, fun j hj hfj => ?_, fun j hj hfj d' hd' => ?_, by simpa using hroom⟩
 ·refine (ents_take hin).trans ?_
  rw [setT_at, setT_two]
  have h1 := ents_take (T := T) hin
  have e0 : ent (T i) = [] := by simp [ent, hf]
  rw [e0, List.nil_append] at h1
  refine List.Perm.trans (List.Perm.append_left _ (h1.symm.trans H.perm)) ?_
  exact List.perm_append_comm
 ·have := ixPut_nodup (k := key) (p := p) H.nd
  rwa [ixPut_new hno] at this
 ·by_cases e : j = i
  ·subst e; rw [setT_at]
  ·rw [setT_ne _ _ e] at hfj ⊢; exact H.hash j hj hfj
 ·by_cases e : j = i
  ·subst e
   rw [setT_at] at hd' ⊢
   have hw : way n (h key % n) j = d := by rw [hi]; exact way_nx hm hd
   have hd' : d' ≤ way n (h key % n) j := hd'
   show (setT T j _ (nx n (h key % n) d')).full = true
   rcases Nat.lt_or_ge d' d with h1 | h1
   ·exact hfull _ (S d' h1)
   ·have : d' = d := by omega
    rw [this, ← hi, setT_at]
  ·rw [setT_ne _ _ e] at hfj hd' ⊢
   exact hfull _ (H.path j hj hfj d' hd')
structure Hole (h : ByteArray → Nat) (T : Tab) (n i k : Nat) (st : IxSt) : Prop where
 hi : i < n
 hk : k < n
 ik : i ≠ k
 stale : (T i).full = true
 perm : (ents (setT T i Sl.zero) n).Perm st
 nd : (st.map (·.1)).Nodup
 hash : ∀ j, j < n → (T j).full = true → (T j).hash = (h (T j).key : Int)
 path : ∀ j, j < n → (T j).full = true → j ≠ i → ∀ d, d ≤ way n (h (T j).key % n) j → (T (nx n (h (T j).key % n) d)).full = true
 seg : ∀ j, j < n → (T j).full = true → j ≠ i → way n i j < way n i k → way n (h (T j).key % n) j < way n i j
 full : ∀ e, e < way n i k → (T (nx n i e)).full = true
theorem Hole.start (H : TabOk h T n st) (hi : i < n) (hf : (T i).full = true) : Hole h T n i (nx n i 1) (ixDrop st (T i).key) := by
 obtain ⟨f, hf1, hf2⟩ := H.free
 have hfi : f ≠ i := fun e => by rw [e, hf] at hf2; cases hf2
 have hn : 1 < n := by omega
 have hw : way n i (nx n i 1) = 1 := way_nx hi hn
 have e1 : ent (T i) = [((T i).key, (T i).pos)] := by simp [ent, hf]
 have h1 : st.Perm (((T i).key, (T i).pos) :: ents (setT T i Sl.zero) n) := by
  have := H.perm.symm.trans (ents_take hi)
  rwa [e1] at this
 refine ⟨hi, nx_lt hi (by omega), ?_, hf, ?_, ixDrop_nodup H.nd, H.hash, fun j hj hfj _ => H.path j hj hfj, fun j hj hfj hji hlt => ?_, fun e he => ?_⟩
 ·have := nx_c n i 1; omega
 ·refine List.Perm.trans ?_ (ixDrop_perm h1).symm
  rw [ixDrop_cons ((h1.map (·.1)).nodup_iff.1 H.nd)]
 ·rw [hw] at hlt
  have h2 := way_c n i j
  omega
 ·rw [hw] at he
  have : e = 0 := by omega
  rw [this, nx_zero hi]; exact hf
theorem Hole.far (H : Hole h T n i k st) (hfn : f < n) (hff : (T f).full = false) (hk : (T k).full = true) : way n i k + 1 < n ∧ way n i (nx n k 1) = way n i k + 1 := by
 have hw := way_lt H.hi H.hk
 have hx := nx_way H.hi H.hk
 have h1 : way n i k + 1 < n := by
  refine Classical.byContradiction fun hh => ?_
  have hwf := way_lt H.hi hfn
  rcases Nat.lt_or_ge (way n i f) (way n i k) with h1 | h1
  ·have := H.full _ h1
   rw [nx_way H.hi hfn, hff] at this; cases this
  ·have e : way n i f = way n i k := by omega
   have := nx_way H.hi hfn
   rw [e, hx] at this
   rw [this, hff] at hk; cases hk
 refine ⟨h1, ?_⟩
 have := way_c n i k
 have := nx_c n k 1
 have := way_c n i (nx n k 1)
 have := H.hi
 have := H.hk
 omega
theorem Hole.stay (H : Hole h T n i k st) (hfn : f < n) (hff : (T f).full = false) (hk : (T k).full = true) (hno : way n (h (T k).key % n) k < way n i k) : Hole h T n i (nx n k 1) st := by
 obtain ⟨h1, h2⟩ := H.far hfn hff hk
 refine ⟨H.hi, nx_lt H.hk (by omega), ?_, H.stale, H.perm, H.nd, H.hash, H.path, fun j hj hfj hji hlt => ?_, fun e he => ?_⟩
 ·intro e
  rw [← e, way_self] at h2; omega
 ·rw [h2] at hlt
  rcases Nat.lt_or_ge (way n i j) (way n i k) with h3 | h3
  ·exact H.seg j hj hfj hji h3
  ·have e : way n i j = way n i k := by omega
   have e2 : j = k := by rw [← nx_way H.hi hj, e, nx_way H.hi H.hk]
   subst e2
   exact hno
 ·rw [h2] at he
  rcases Nat.lt_or_ge e (way n i k) with h3 | h3
  ·exact H.full e h3
  ·have : e = way n i k := by omega
   rw [this, nx_way H.hi H.hk]; exact hk
theorem Hole.move (H : Hole h T n i k st) (hfn : f < n) (hff : (T f).full = false) (hk : (T k).full = true) (hyes : way n i k ≤ way n (h (T k).key % n) k) : Hole h (setT T i (T k)) n k (nx n k 1) st := by
 have hn : 0 < n := by omega
 have hfull : ∀ j, (setT T i (T k) j).full = (T j).full := fun j => by
  unfold setT; split
  ·rename_i e; rw [e, H.stale, hk]
  ·rfl
 have hfk : f ≠ k := fun e => by rw [e, hk] at hff; cases hff
 have hn1 : 1 < n := by have := H.hk; omega
 have hw1 : way n k (nx n k 1) = 1 := way_nx H.hk hn1
 have hki : k ≠ i := Ne.symm H.ik
 refine ⟨H.hk, nx_lt H.hk (by omega), ?_, by rw [hfull]; exact hk, ?_, H.nd, fun j hj hfj => ?_, fun j hj hfj hjk d hd => ?_, fun j hj hfj hjk hlt => ?_, fun e he => ?_⟩
 ·have := nx_c n k 1; have := H.hk; omega
 ·refine List.Perm.trans ?_ H.perm
  have p1 := ents_take (T := setT (setT T i (T k)) k Sl.zero) H.hi
  have p2 := ents_take (T := setT T i Sl.zero) H.hk
  have e1 : setT (setT T i (T k)) k Sl.zero i = T k := by rw [setT_ne _ _ H.ik, setT_at]
  have e2 : setT T i Sl.zero k = T k := setT_ne _ _ hki
  have e3 : setT (setT (setT T i (T k)) k Sl.zero) i Sl.zero = setT (setT T i Sl.zero) k Sl.zero := by
   funext j; unfold setT
   by_cases a : j = i
   ·have : j ≠ k := fun b => hki (b.symm.trans a)
    simp [a, H.ik]
   ·simp [a]
  rw [e1, e3] at p1
  rw [e2] at p2
  exact p1.trans p2.symm
 ·by_cases e : j = i
  ·subst e; rw [setT_at]; exact H.hash k H.hk hk
  ·rw [setT_ne _ _ e] at hfj ⊢; exact H.hash j hj hfj
 ·rw [hfull]
  by_cases e : j = i
  ·subst e
   rw [setT_at] at hd ⊢
   refine H.path k H.hk hk hki d ?_
   have hm := Nat.mod_lt (h (T k).key) hn
   generalize h (T k).key % n = m at hm hd hyes ⊢
   have := way_c n m j
   have := way_c n m k
   have := way_c n j k
   have := H.hi
   have := H.hk
   omega
  ·rw [hfull] at hfj
   rw [setT_ne _ _ e] at hd ⊢
   exact H.path j hj hfj e d hd
 ·rw [hw1] at hlt
  have := way_c n k j
  have := H.hk
  omega
 ·rw [hw1] at he
  have : e = 0 := by omega
  rw [this, nx_zero H.hk, hfull]; exact hk
theorem Hole.done (H : Hole h T n i k st) (hk : (T k).full = false) : TabOk h (setT T i Sl.zero) n st := by
 have hn : 0 < n := by have := H.hi; omega
 have hf : ∀ j, (setT T i Sl.zero j).full = true → j ≠ i ∧ (T j).full = true := fun j hj => by
  unfold setT at hj
  split at hj
  ·cases hj
  ·rename_i e; exact ⟨e, hj⟩
 refine ⟨H.perm, H.nd, fun j hj hfj => ?_, fun j hj hfj d hd => ?_, ?_⟩
 ·obtain ⟨e, h1⟩ := hf j hfj
  rw [setT_ne _ _ e]; exact H.hash j hj h1
 ·obtain ⟨e, h1⟩ := hf j hfj
  rw [setT_ne _ _ e] at hd ⊢
  have hp := H.path j hj h1 e
  have hm := Nat.mod_lt (h (T j).key) hn
  by_cases hx : nx n (h (T j).key % n) d = i
  ·exfalso
   have hs := H.seg j hj h1 e
   generalize h (T j).key % n = m at hp hs hd hx hm
   have hlt : way n i j < way n i k := by
    refine Classical.byContradiction fun hh => ?_
    have hlast := hp (d + way n i k) (by
     have := way_c n m j
     have := way_c n i j
     have := nx_c n m d
     have := H.hi
     omega)
    have e3 : nx n m (d + way n i k) = k := by
     have := nx_c n m (d + way n i k)
     have := way_c n i k
     have := way_c n i j
     have := way_c n m j
     have := nx_c n m d
     have := H.hi
     have := H.hk
     omega
    rw [e3, hk] at hlast; cases hlast
   have := hs hlt
   have := way_c n m j
   have := way_c n i j
   have := nx_c n m d
   have := H.hi
   omega
  ·rw [setT_ne _ _ hx]; exact hp d hd
 ·rw [← H.perm.length_eq]
  refine Classical.byContradiction fun hh => ?_
  have h1 := ents_len (setT T i Sl.zero) n
  have h2 := (ents_take (T := setT T i Sl.zero) H.hi).length_eq
  rw [setT_at, setT_two] at h2
  have h3 := (ents_take (T := setT (setT T i Sl.zero) k ⟨⟨#[]⟩, 0, 0, true⟩) H.hk).length_eq
  rw [setT_at, setT_two] at h3
  have h4 := ents_len (setT (setT T i Sl.zero) k ⟨⟨#[]⟩, 0, 0, true⟩) n
  have h5 := (ents_take (T := setT T i Sl.zero) H.hk).length_eq
  rw [setT_ne _ _ (Ne.symm H.ik)] at h5
  simp [ent, hk] at h5 h3
  omega
end
end Go.Proofs.YticophaepapjoaaGreatDoor
