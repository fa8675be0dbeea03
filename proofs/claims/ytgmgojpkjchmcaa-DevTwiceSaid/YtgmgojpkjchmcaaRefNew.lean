/-
  THE REFERENCE's DEVICE: NewDev.
-/
import Derived.Test.YtgmgojpkjchmcaaRefFlush
import Derived.Deep.RegionLaw
import Derived.OwnWalk
namespace Go.Proofs.Ytgmgojpkjchmcaa
open Go Go.RowKit Go.Joins

theorem bool_elem : Elem Try.prog 29 4 (.bool false) 1 1 := ⟨Try.underlying29, by kernel_rfl, rfl, by decide⟩
theorem hdr_elem : Elem Try.prog 38 28 (.slice none 0 0) 1 24 := ⟨Try.underlying38, by kernel_rfl, rfl, by decide⟩
/-- A new sector. -/
def zeros : Array Value := (bcells blank).toArray
theorem make_zeros (W : World) : (Instr.makeSlice 28 (.int .i64 64) (.int .i64 64)).run Try.prog W = .ok (.slice (some ⟨W.heap.size, 0, none⟩) 64 64) (W.alloc (.cells zeros 5)) := by kernel_rfl

/-- The block that a slice begins in. -/
def ob (A : Option Addr) : Option Nat := A.map (·.block)
theorem ob_own (A : Option Addr) (n c : Nat) : (Value.slice A n c).ownBlock = ob A := by cases A <;> rfl
/-- A new sector, in a block of its own. -/
def Zero (wr : World) (base p gd : Nat) (A B : Option Addr) (q : Part) : Prop :=
  ∃ g, q = ⟨some ⟨g, 0, none⟩, 64, blank⟩ ∧ wr.ownsRow base 5 1 (.slice (some ⟨g, 0, none⟩) 64 64) 64 (bcells blank) ∧ g ≠ p ∧ g ≠ gd ∧ ob A ≠ some g ∧ ob B ≠ some g
/-- A device that is being made. -/
structure NewSt (w wr : World) (p gd k : Nat) (A : Option Addr) (j c : Nat) (ns : List Part) (B : Option Addr) (i d : Nat) (fs : List Part) : Prop where
  o1 : wr.ownsRow w.heap.size 28 1 (.slice A j c) j (ns.map Part.val)
  o2 : wr.ownsRow w.heap.size 28 1 (.slice B i d) i (fs.map Part.val)
  o3 : wr.ownsRow w.heap.size 4 1 (.slice (some ⟨gd, 0, none⟩) k k) k ((List.replicate k false).map Value.bool)
  b1 : ∀ q ∈ ns, Zero wr w.heap.size p gd A B q
  b2 : ∀ q ∈ fs, Zero wr w.heap.size p gd A B q
  a1 : ob A ≠ some p ∧ ob A ≠ some gd
  a2 : ob B ≠ some p ∧ ob B ≠ some gd
  ab : ∀ b, ob A = some b → ob B ≠ some b
  hp : p < wr.heap.size ∧ w.heap.size ≤ p ∧ gd < wr.heap.size ∧ w.heap.size ≤ gd ∧ p ≠ gd
  kp : Keeps (fun _ => True) w wr
theorem NewSt.swap {w wr : World} {p gd k j c i d : Nat} {A B : Option Addr} {ns fs : List Part} (h : NewSt w wr p gd k A j c ns B i d fs) : NewSt w wr p gd k B i d fs A j c ns :=
  ⟨h.o2, h.o1, h.o3, fun q hq => let ⟨g, e, o, n1, n2, n3, n4⟩ := h.b2 q hq; ⟨g, e, o, n1, n2, n4, n3⟩, fun q hq => let ⟨g, e, o, n1, n2, n3, n4⟩ := h.b1 q hq; ⟨g, e, o, n1, n2, n4, n3⟩, h.a2, h.a1, fun b hb ha => h.ab b ha hb, h.hp, h.kp⟩
theorem NewSt.drew {w wr : World} {p gd k j c i d : Nat} {A B : Option Addr} {ns fs : List Part} (h : NewSt w wr p gd k A j c ns B i d fs) : NewSt w wr.drew p gd k A j c ns B i d fs :=
  ⟨h.o1, h.o2, h.o3, h.b1, h.b2, h.a1, h.a2, h.ab, h.hp, h.kp.drew⟩

/-- The world in which a new sector's header is appended. -/
def newW (wr : World) : World := (wr.alloc (.cells zeros 5)).alloc (.cells #[.slice (some ⟨wr.heap.size, 0, none⟩) 64 64] 28)
theorem newW_size (wr : World) : (newW wr).heap.size = wr.heap.size + 2 := by simp [newW]
theorem newW_keeps (wr : World) : Keeps (fun _ => True) wr (newW wr) := ((Keeps.refl _ wr).alloc _).alloc _
theorem newW_src (wr : World) : Src Try.prog 1 38 (.slice (some ⟨wr.heap.size + 1, 0, none⟩) 1 1) 1 [.slice (some ⟨wr.heap.size, 0, none⟩) 64 64] (newW wr).drew :=
  ((Row.fresh (F := fun _ => True) (wr.alloc (.cells zeros 5)) #[.slice (some ⟨wr.heap.size, 0, none⟩) 64 64] 28 (0, 0) (wr.heap.size + 1) (by simp) trivial _ rfl).keep ((Keeps.refl _ _).drew)).src (c := 1) Try.underlying38 (fun u hu => by rw [List.mem_singleton.1 hu]; rfl)
theorem grown_undrew {w w' : World} {r : Option Nat} (h : w.drew.grownBy w' r) : w.grownBy w' r := ⟨h.os, h.tape, h.output, h.size, h.block⟩
/-- The append of a new sector's header, and the store of what it answers. -/
theorem NewSt.step {w wr W1 : World} {p gd k j c i d f : Nat} {A B : Option Addr} {ns fs : List Part} {v : Value} (h : NewSt w wr p gd k A j c ns B i d fs)
    (o : W1.ownsRow w.heap.size 28 1 v (j + 1) (ns.map Part.val ++ [.slice (some ⟨wr.heap.size, 0, none⟩) 64 64])) (g : (newW wr).grownBy W1 (Value.slice A j c).ownBlock)
    (hb : v.ownBlock = (Value.slice A j c).ownBlock ∨ v.ownBlock = some (newW wr).heap.size) :
    W1.heap[p]? = wr.heap[p]? ∧ ∃ g' c', v = .slice (some ⟨g', 0, none⟩) (j + 1) c' ∧ NewSt w (W1.setCell ⟨p, f, none⟩ v) p gd k (some ⟨g', 0, none⟩) (j + 1) c' (ns ++ [⟨some ⟨wr.heap.size, 0, none⟩, 64, blank⟩]) B i d fs := by
  rw [ob_own] at g hb
  rw [newW_size] at hb
  have hkN := newW_keeps wr
  have hg0 : wr.grownBy W1 (ob A) := grown_of_alloc (grown_of_alloc g)
  have hsz : wr.heap.size + 2 ≤ W1.heap.size := by have := g.size; rw [newW_size] at this; exact this
  obtain ⟨g', c', hv, hge, hlt'⟩ := o.form (Nat.succ_pos j)
  subst hv
  have hpW : W1.heap[p]? = wr.heap[p]? := hg0.block p h.hp.1 (fun e => h.a1.1 e.symm)
  have hA : ∀ b, ob A = some b → w.heap.size ≤ b ∧ b < wr.heap.size := fun b hb => h.o1.lt b (by rw [ob_own]; exact hb)
  have hBlt : ∀ b, ob B = some b → w.heap.size ≤ b ∧ b < wr.heap.size := fun b hb => h.o2.lt b (by rw [ob_own]; exact hb)
  have hg' : (some g' : Option Nat) = ob A ∨ g' = wr.heap.size + 2 := by
    rcases hb with hb | hb
    · exact .inl hb
    · right; injection hb
  have kW1 : Keeps (fun _ => True) w W1 := h.kp.grown hg0 fun b hb => (hA b hb).1
  have kEnd : Keeps (fun _ => True) w (W1.setCell ⟨p, f, none⟩ (.slice (some ⟨g', 0, none⟩) (j + 1) c')) := kW1.setCell (.inl h.hp.2.1) _
  have outP : ∀ {t : TypeId} {b n m : Nat} {xs : List Value}, b ≠ p → W1.ownsRow w.heap.size t 1 (.slice (some ⟨b, 0, none⟩) n m) n xs → (W1.setCell ⟨p, f, none⟩ (.slice (some ⟨g', 0, none⟩) (j + 1) c')).ownsRow w.heap.size t 1 (.slice (some ⟨b, 0, none⟩) n m) n xs :=
    fun hne ho => ((Keeps.refl (fun b => b ≠ p) _).setCell (.inr (fun hn => hn rfl)) _).own ho (fun b hb => by cases hb; exact hne)
  have g'p : g' ≠ p := fun e => by
    rcases hg' with h1 | h1
    · exact h.a1.1 (by rw [← h1, e])
    · have := h.hp.1; omega
  have g'gd : g' ≠ gd := fun e => by
    rcases hg' with h1 | h1
    · exact h.a1.2 (by rw [← h1, e])
    · have := h.hp.2.2.1; omega
  have newZero : Zero (W1.setCell ⟨p, f, none⟩ (.slice (some ⟨g', 0, none⟩) (j + 1) c')) w.heap.size p gd (some ⟨g', 0, none⟩) B ⟨some ⟨wr.heap.size, 0, none⟩, 64, blank⟩ := by
    have hne : wr.heap.size ≠ p := by have := h.hp.1; omega
    have hz : (newW wr).ownsRow w.heap.size 5 1 (.slice (some ⟨wr.heap.size, 0, none⟩) 64 64) 64 (bcells blank) :=
      World.ownsRow.alloc (World.ownsRow_lit wr zeros 64 h.kp.size (by decide) rfl) _
    refine ⟨_, rfl, outP hne (hz.kept g (.inr ?_)), hne, by have := h.hp.2.2.1; omega, ?_, ?_⟩
    · intro e
      have := (hA wr.heap.size (by rw [← e]; rfl)).2
      omega
    · intro e
      have e : g' = wr.heap.size := by simpa [ob] using e
      rcases hg' with h1 | h1
      · have := (hA g' h1.symm).2; omega
      · omega
    · intro e
      have := (hBlt _ e).2; omega
  have oldZero : ∀ q, Zero wr w.heap.size p gd A B q → Zero (W1.setCell ⟨p, f, none⟩ (.slice (some ⟨g', 0, none⟩) (j + 1) c')) w.heap.size p gd (some ⟨g', 0, none⟩) B q := fun q hq => by
    obtain ⟨b, e, ho, n1, n2, n3, n4⟩ := hq
    refine ⟨b, e, outP n1 (ho.kept hg0 (.inr fun e => n3 (by rw [← e]; rfl))), n1, n2, ?_, n4⟩
    intro e
    have e : g' = b := by simpa [ob] using e
    rcases hg' with h1 | h1
    · exact n3 (by rw [← h1, e])
    · have := (ho.lt b rfl).2; omega
  refine ⟨hpW, g', c', rfl, ?_, ?_, ?_, ?_, ?_, ?_, h.a2, ?_, ?_, kEnd⟩
  · rw [List.map_append]
    exact outP g'p o
  · have o2 := h.o2.kept hg0 (by
      rw [ob_own]
      cases hB : ob B with
      | none => exact .inl rfl
      | some b => right; intro e; exact h.ab b e.symm hB)
    exact ((Keeps.refl (fun b => b ≠ p) _).setCell (.inr (fun hn => hn rfl)) _).own o2 (fun b hb e => h.a2.1 (by rw [ob_own] at hb; rw [hb, e]))
  · exact outP (Ne.symm h.hp.2.2.2.2) (h.o3.kept hg0 (.inr fun e => h.a1.2 (by rw [← e]; rfl)))
  · intro q hq
    rcases List.mem_append.1 hq with hq | hq
    · exact oldZero q (h.b1 q hq)
    · rw [List.mem_singleton.1 hq]; exact newZero
  · exact fun q hq => oldZero q (h.b2 q hq)
  · exact ⟨by simpa [ob] using g'p, by simpa [ob] using g'gd⟩
  · intro b hb hB
    have e : g' = b := by simpa [ob] using hb
    subst e
    rcases hg' with h1 | h1
    · exact h.ab g' h1.symm hB
    · have := (hBlt g' hB).2; omega
  · have hs : (W1.setCell ⟨p, f, none⟩ (.slice (some ⟨g', 0, none⟩) (j + 1) c')).heap.size = W1.heap.size := by simp [World.setCell]
    have := h.hp
    exact ⟨by omega, this.2.1, by omega, this.2.2.2⟩

theorem zero_fits {wr : World} {base p gd : Nat} {A B : Option Addr} {q : Part} (h : Zero wr base p gd A B q) {F : Nat → Prop} (hF : ∀ b, q.A.map (·.block) = some b → F b) : q.Fits wr F := by
  obtain ⟨g, rfl, ho, -⟩ := h
  exact ⟨by show blank.length ≤ 64; simp [blank], by show 64 ≤ maxLen; decide, (fun e => by cases e), (own_row ho).mono fun b _ e => hF b (by rw [e]; rfl)⟩
/-- The device that was made. -/
theorem NewSt.done {w wr : World} {P gd k c d : Nat} {A B : Option Addr} {ns fs : List Part} (hk : 1 ≤ k) (hk2 : k ≤ 2048) (h : NewSt w wr P gd k A k c ns B k d fs)
    (hblk : wr.heap[P]? = some (.cells #[.slice A k c, .slice B k d, .slice (some ⟨gd, 0, none⟩) k k, .int .i64 0] 40 (0, 0))) :
    ∃ F, RAt wr P F (SDev.new k) ∧ (∀ b, F.all b → w.heap.size ≤ b) := by
  obtain ⟨ga, ca, ea, hga, hla⟩ := h.o1.form hk
  obtain ⟨gb, cb, eb, hgb, hlb⟩ := h.o2.form hk
  injection ea with ea1 _ ea2
  injection eb with eb1 _ eb2
  subst ea1 ea2 eb1 eb2
  have hnl : ns.length = k := by have := h.o1.1; simpa using this
  have hfl : fs.length = k := by have := h.o2.1; simpa using this
  have hz : ∀ q ∈ ns ++ fs, Zero wr w.heap.size P gd (some ⟨ga, 0, none⟩) (some ⟨gb, 0, none⟩) q := fun q hq => by
    rcases List.mem_append.1 hq with hq | hq
    · exact h.b1 q hq
    · exact h.b2 q hq
  have ha1 : ga ≠ P := fun e => h.a1.1 (by rw [← e]; rfl)
  have ha2 : ga ≠ gd := fun e => h.a1.2 (by rw [← e]; rfl)
  have hb1 : gb ≠ P := fun e => h.a2.1 (by rw [← e]; rfl)
  have hb2 : gb ≠ gd := fun e => h.a2.2 (by rw [← e]; rfl)
  have hab : ga ≠ gb := fun e => h.ab ga rfl (by rw [e]; rfl)
  have hi : ∀ b, (∃ q ∈ ns ++ fs, q.A.map (·.block) = some b) → w.heap.size ≤ b ∧ b < wr.heap.size ∧ b ≠ P ∧ b ≠ gd ∧ b ≠ ga ∧ b ≠ gb := fun b ⟨q, hq, e⟩ => by
    obtain ⟨g, rfl, ho, n1, n2, n3, n4⟩ := hz q hq
    have e : g = b := by simpa using e
    subst e
    have := ho.lt g rfl
    exact ⟨this.1, this.2, n1, n2, (fun e => n3 (by rw [e]; rfl)), (fun e => n4 (by rw [e]; rfl))⟩
  have hl : ∀ (l : List Part), l.length = k → (∀ q ∈ l, Zero wr w.heap.size P gd (some ⟨ga, 0, none⟩) (some ⟨gb, 0, none⟩) q) → l.map (·.l) = List.replicate k blank := fun l hlen hq =>
    List.eq_replicate_iff.2 ⟨by simpa using hlen, fun x hx => by
      obtain ⟨q, hq1, rfl⟩ := List.mem_map.1 hx
      obtain ⟨g, rfl, -⟩ := hq q hq1
      rfl⟩
  refine ⟨⟨fun b => b = P ∨ b = ga ∨ b = gb ∨ b = gd, fun b => ∃ q ∈ ns ++ fs, q.A.map (·.block) = some b⟩, ⟨new_ok k hk hk2, ?_, ?_, ga, c, gb, d, gd, k, ns, fs, ?_, ?_, ?_, ?_, ?_, ?_, ?_, ?_, ?_, .inl rfl, .inr (.inl rfl), .inr (.inr (.inl rfl)), .inr (.inr (.inr rfl))⟩, ?_⟩
  · intro b hb
    rcases hb with (rfl | rfl | rfl | rfl) | hb
    · exact h.hp.1
    · exact hla
    · exact hlb
    · exact h.hp.2.2.1
    · exact (hi b hb).2.1
  · intro b hb hib
    have := hi b hib
    rcases hb with rfl | rfl | rfl | rfl <;> omega
  · rw [hblk]; simp [SDev.new]
  · have := ownsRow_le h.o1 (Nat.zero_le _); simpa [SDev.new] using this
  · exact hl ns hnl fun q hq => hz q (List.mem_append.2 (.inl hq))
  · have := ownsRow_le h.o2 (Nat.zero_le _); simpa [SDev.new] using this
  · exact hl fs hfl fun q hq => hz q (List.mem_append.2 (.inr hq))
  · have := ownsRow_le h.o3 (Nat.zero_le _); simpa [SDev.new] using this
  · exact fun q hq => zero_fits (hz q (List.mem_append.2 (.inl hq))) fun b hb => ⟨q, List.mem_append.2 (.inl hq), hb⟩
  · exact fun q hq => zero_fits (hz q (List.mem_append.2 (.inr hq))) fun b hb => ⟨q, List.mem_append.2 (.inr hq), hb⟩
  · have := h.hp.2.2.2.2
    simp only [List.nodup_cons, List.mem_cons, List.not_mem_nil, or_false, not_or, not_false_eq_true, List.nodup_nil, and_true]
    exact ⟨⟨Ne.symm ha1, Ne.symm hb1, this⟩, ⟨hab, ha2⟩, hb2⟩
  · intro b hb
    rcases hb with (rfl | rfl | rfl | rfl) | hb
    · exact h.hp.2.1
    · exact hga
    · exact hgb
    · exact h.hp.2.2.2.1
    · exact (hi b hb).1

set_option maxHeartbeats 1000000 in
theorem rnew_any (w : World) (n : Int) (h1 : -9223372036854775808 ≤ n) (h2 : n < 9223372036854775808) :
    Calls Try.prog 11 #[.int .i64 n] w fun e w' => ∃ p F, e = .returned (.pointer (some ⟨p, 0, none⟩)) ∧ RAt w' p F (SDev.new (clampN n)) ∧ (∀ b, F.all b → w.heap.size ≤ b) ∧ Keeps (fun _ => True) w w' := by
  have e1 : (if (2048 : Int) < n then (2048 : Int) else n) = min n 2048 := by split <;> omega
  have e2 : (if (1 : Int) < min n 2048 then min n 2048 else 1) = ((clampN n : Nat) : Int) := by unfold clampN; split <;> omega
  have hk := clampN_bd n
  generalize clampN n = k at e2 hk
  generalize min n 2048 = m at e1 e2
  go_enter Try.func11, Try.ntmps11
  obtain ⟨i0, hi, hz0, hz1, hz2⟩ := info_parts bool_elem.info
  have b2' : i0.bytes * k ≤ 281474976710656 := by rw [hz2]; omega
  have Hi := Lib.hid hi
  have Hz0 := Lib.hid hz0
  have Hz1 := Lib.hid hz1
  clear hi hz0 hz1 hz2
  go_wp2_with (refine wpList_make_full _ rfl _ _ 29 rfl w.heap.size 4 i0 (.bool false) 1 Try.underlying29 Hi.out Hz0.out Hz1.out .i64 .i64 _ _ k rfl rfl rfl rfl b2' ?b3 (Nat.le_refl _) ?_)
  case b3 => unfold maxLen; omega
  intro w2 hown hg
  have hk2 : Keeps (fun _ => True) w w2 := Keeps.of_grown hg (fun _ h => by cases h)
  have hgd : w.heap.size < w2.heap.size := (hown.lt w.heap.size rfl).2
  have ho0 : w2.ownsRow w.heap.size 4 1 (.slice (some ⟨w.heap.size, 0, none⟩) k k) k ((List.replicate k false).map Value.bool) := by
    have e : (madeCells #[Value.bool false] k).toList = (List.replicate k false).map Value.bool := by rw [List.map_replicate]; exact toList_madeCells_one _ _
    rw [← e]; simpa using hown
  have HO := Lib.hid ho0
  have HK := Lib.hid hk2
  clear hown hg ho0 hk2 e1 e2
  have hblk : (w2.alloc (.cells #[.slice none 0 0, .slice none 0 0, .slice (some ⟨w.heap.size, 0, none⟩) k k, .int .i64 0] 40)).heap[w2.heap.size]? = some (.cells #[.slice none 0 0, .slice none 0 0, .slice (some ⟨w.heap.size, 0, none⟩) k k, .int .i64 0] 40 (0, 0)) := heap_alloc_new _ _
  have hst : NewSt w (w2.alloc (.cells #[.slice none 0 0, .slice none 0 0, .slice (some ⟨w.heap.size, 0, none⟩) k k, .int .i64 0] 40)) w2.heap.size w.heap.size k none 0 0 [] none 0 0 [] :=
    ⟨World.ownsRow_nil _ _ _ _, World.ownsRow_nil _ _ _ _, HO.out.alloc _, (fun q hq => by cases hq), (fun q hq => by cases hq), ⟨by simp [ob], by simp [ob]⟩, ⟨by simp [ob], by simp [ob]⟩, (fun b hb => by simp [ob] at hb), ⟨by simp, by omega, by simp; omega, Nat.le_refl _, by omega⟩, HK.out.alloc _⟩
  have HB := Lib.hid hblk
  have HS := Lib.hid hst
  clear hblk hst HO HK
  go_wp2
  generalize (w2.alloc (.cells #[.slice none 0 0, .slice none 0 0, .slice (some ⟨w.heap.size, 0, none⟩) k k, .int .i64 0] 40)) = w3 at HB HS ⊢
  generalize w2.heap.size = P at HB HS hgd ⊢
  generalize hG : w.heap.size = gd at HB HS
  have HG := Lib.hid hG
  clear hG
  go_loopw [4] (fun i wr => ∃ (j : Nat) (A B : Option Addr) (c d : Nat) (ns fs : List Part), j ≤ k ∧ i = .int .i64 j ∧ wr.heap[P]? = some (.cells #[.slice A j c, .slice B j d, .slice (some ⟨gd, 0, none⟩) k k, .int .i64 0] 40 (0, 0)) ∧ NewSt w wr P gd k A j c ns B j d fs) (fun i _ => k - (intOf i).toNat)
  case atStart => exact ⟨0, none, none, 0, 0, [], [], Nat.zero_le _, rfl, HB.out, HS.out⟩
  case round =>
    obtain ⟨j, A, B, c, d, ns, fs, hj, rfl, hblk, hst⟩ := hrel
    by_cases hl : j < k
    · have hmk := make_zeros
      have c0 : wr.cell? ⟨P, 0, none⟩ = some (.slice A j c) := (cell_of_block hblk 0).trans rfl
      have hP : P < wr.heap.size := hst.hp.1
      have h1 := Lib.hid (show (newW wr).drew.ownsRow w.heap.size 28 1 (.slice A j c) j (ns.map Part.val) from (hst.o1.alloc _).alloc _)
      have h2 := Lib.hid (newW_src wr)
      have h3 := Lib.hid (show j + 1 ≤ maxLen by unfold maxLen; omega)
      have h4 : (j + 1) * 24 ≤ 140737488355328 := by omega
      have h5 := Lib.hid (show w.heap.size ≤ (newW wr).drew.heap.size from Nat.le_trans hst.kp.size (newW_keeps wr).size)
      have HST := Lib.hid hst
      have HBL := Lib.hid hblk
      clear hst hblk
      go_wp2
      go_region_law (refine hdr_elem.step_append rfl (.tmp 21) (.tmp 23) 38 rfl (by simp [Act.eval, Act.put]) h1.out (by simp [Act.eval, Act.put]) h2.out h3.out h4 h5.out ?_; intro v1 W1 o1 g1 b1; obtain ⟨q1, g', c', hv, q2⟩ := HST.out.step (f := 0) o1 (grown_undrew g1) b1; subst hv; have q3 := q1.trans HBL.out; have c1 : W1.cell? ⟨P, 0, none⟩ = some (.slice A j c) := (cell_of_block q3 0).trans rfl; have c2 := unfrozen_of_block q3 0)
      all_goals
        have q4 : (W1.setCell ⟨P, 0, none⟩ (.slice (some ⟨g', 0, none⟩) (j + 1) c')).heap[P]? = _ := block_setCell q3 (i := 0) (.slice (some ⟨g', 0, none⟩) (j + 1) c')
        have hnl : (ns ++ [(⟨some ⟨wr.heap.size, 0, none⟩, 64, blank⟩ : Part)]).length = (ns ++ [(⟨some ⟨wr.heap.size, 0, none⟩, 64, blank⟩ : Part)]).length := rfl
        generalize (W1.setCell ⟨P, 0, none⟩ (.slice (some ⟨g', 0, none⟩) (j + 1) c')) = W2 at q2 q4 ⊢
        generalize (ns ++ [(⟨some ⟨wr.heap.size, 0, none⟩, 64, blank⟩ : Part)]) = ns2 at q2
        have r1 := q2.swap
        have c1' : W2.cell? ⟨P, 1, none⟩ = some (.slice B j d) := (cell_of_block q4 1).trans rfl
        have hP2 : P < W2.heap.size := q2.hp.1
        have k1 := Lib.hid (show (newW W2).drew.ownsRow w.heap.size 28 1 (.slice B j d) j (fs.map Part.val) from (r1.o1.alloc _).alloc _)
        have k2 := Lib.hid (newW_src W2)
        have k5 := Lib.hid (show w.heap.size ≤ (newW W2).drew.heap.size from Nat.le_trans q2.kp.size (newW_keeps W2).size)
        have HR := Lib.hid r1
        have HQ := Lib.hid q4
        clear q1 q2 q3 q4 r1 c1 c2 o1 g1 b1 c0 hnl h1 h2 h5
        go_wp2
        go_region_law (refine hdr_elem.step_append rfl (.tmp 31) (.tmp 33) 38 rfl (by simp [Act.eval, Act.put]) k1.out (by simp [Act.eval, Act.put]) k2.out h3.out h4 k5.out ?_; intro v2 W3 o1 g1 b1; obtain ⟨q1, g2, c2, hv, q2⟩ := HR.out.step (f := 1) o1 (grown_undrew g1) b1; subst hv; have q3 := q1.trans HQ.out; have c3 : W3.cell? ⟨P, 1, none⟩ = some (.slice B j d) := (cell_of_block q3 1).trans rfl; have c4 := unfrozen_of_block q3 1)
        all_goals
          have q5 := Lib.hid (block_setCell q3 (i := 1) (.slice (some ⟨g2, 0, none⟩) (j + 1) c2))
          have q6 := Lib.hid q2.swap
          clear q1 q2 q3 c3 c4 o1 g1 b1
          go_wp2
          go_roundw
          case rel => exact ⟨j + 1, some ⟨g', 0, none⟩, some ⟨g2, 0, none⟩, c', c2, ns2, _, by omega, by go_num, q5.out, q6.out⟩
          case measure => simp [intOf]; omega
    · obtain rfl : j = k := by omega
      obtain ⟨F, hR, hF⟩ := hst.done hk.1 hk.2 hblk
      have H1 := Lib.hid hR
      have H2 := Lib.hid hF
      have H3 := Lib.hid hst.kp
      clear hst hblk hR hF
      go_wp2
      go_ret
      exact ⟨P, F, rfl, H1.out, H2.out, H3.out⟩
end Go.Proofs.Ytgmgojpkjchmcaa
