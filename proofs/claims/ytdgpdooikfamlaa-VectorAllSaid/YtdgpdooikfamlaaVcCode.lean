/-
  THE PROGRAM's VECTORS: Encode, Decode (layer 11).
-/
import Derived.Test.YtdgpdooikfamlaaVcOfs
import Derived.Test.YtdgpdooikfamlaaNumPut
import Derived.Test.YtdgpdooikfamlaaNumAll
namespace Go.Proofs.Ytdgpdooikfamlaa
open Go Go.RowKit Go.Joins

def five (f : Nat → Int) : List Int := [f 1, f 2, f 3, f 4, f 5]
theorem enc_puts (f : Nat → Int) : putsZ (five f) = encV f := by simp [putsZ, five, encV]
theorem VBlk.five {w : World} {g : Nat} {t : TypeId} {f : Nat → Int} (h : VBlk w g t f) (F : Nat → Prop) (hF : F g) : Row w (some ⟨g, 1, none⟩) F ((five f).map (Value.int .i64)) := fun _ => by
  refine ⟨g, 1, rfl, hF, fun k v hk => ?_⟩
  have hk5 : k < 5 := by
    have := (List.getElem?_eq_some_iff.1 hk).1
    simpa [Go.Proofs.Ytdgpdooikfamlaa.five] using this
  have e := h.at_ (1 + k) (by omega)
  have hc : k = 0 ∨ k = 1 ∨ k = 2 ∨ k = 3 ∨ k = 4 := by omega
  rcases hc with rfl | rfl | rfl | rfl | rfl <;> (simp [Go.Proofs.Ytdgpdooikfamlaa.five] at hk; rw [← hk]; exact e)
theorem keep_past {w w1 w2 : World} {g : Nat} (h : Kp w w1) (k : Keeps (fun b => b ≠ g) w1 w2) (hg : w.heap.size ≤ g) : Kp w w2 :=
  ((h.mono fun _ _ _ => trivial).trans k).mono fun b hb _ => by omega
theorem vown_row {w : World} {B : Nat} {v : Value} {l : List UInt8} (h : OwnB w B v l) : ∃ A c, v = .slice A l.length c ∧ l.length ≤ c ∧ c ≤ maxLen ∧ Row w A (fun b => B ≤ b ∧ b < w.heap.size) (bcells l) := by
  unfold OwnB at h
  have key : ∃ A c, v = .slice A l.length c ∧ l.length ≤ c ∧ c ≤ maxLen := by
    rcases h.2 with ⟨h', h0⟩ | ⟨g', cap', cur, h', _, _, h1, h2, _⟩
    · exact ⟨none, 0, by rw [h0]; exact h', by omega, Nat.zero_le _⟩
    · exact ⟨_, _, h', h1, h2⟩
  obtain ⟨A, c, rfl, h1, h2⟩ := key
  refine ⟨A, c, rfl, h1, h2, ?_⟩
  have e : l.length = (bcells l).length := by rw [bcells_len]
  rw [e] at h
  exact Row.of_own h

set_option maxRecDepth 100000 in
set_option maxHeartbeats 1000000 in
theorem vencode_any (w : World) (f : Nat → Int) (hf : VOk f) :
    Calls Try.prog 17 #[vagg f] w fun e w' => (smallB f = true → ∃ A c, e = .returned (.slice A (encV f).length c) ∧ (encV f).length ≤ c ∧ c ≤ maxLen ∧ Row w' A (fun b => w.heap.size ≤ b ∧ b < w'.heap.size) (bcells (encV f)) ∧ Kp w w') ∧ (smallB f = false → (∃ A c, e = .returned (.slice A 0 c)) ∧ Kp w w') := by
  have HB := Lib.hid (fits_small hf)
  have HN := Lib.hid (show ∀ n ∈ five f, -9223372036854775808 ≤ n ∧ n < 9223372036854775808 from fun n hn => by
    have h : ∃ i, n = f i := by
      simp only [five, List.mem_cons, List.not_mem_nil, or_false] at hn
      rcases hn with rfl | rfl | rfl | rfl | rfl
      · exact ⟨1, rfl⟩
      · exact ⟨2, rfl⟩
      · exact ⟨3, rfl⟩
      · exact ⟨4, rfl⟩
      · exact ⟨5, rfl⟩
    obtain ⟨i, rfl⟩ := h
    have := hf.low i
    have := hf.high i
    omega)
  clear hf
  have HW := Lib.hid (show ∀ w2, w2 = w.alloc (.cells (vcells f) 26) → VBlk w2 w.heap.size 26 f ∧ Kp w w2 from by
    rintro w2 rfl
    exact ⟨heap_alloc_new w _, (Keeps.refl _ _).alloc _⟩)
  have HFT := Lib.hid (show ∀ w2, Calls Try.prog 26 #[vagg f] w2 fun e w' => e = .returned (.bool (smallB f)) ∧ Kp w2 w' from fun w2 => by
    rw [← HB.out]; exact fits_any w2 f)
  unfold vagg at HFT
  unfold vcells at HW HFT
  unfold vagg vcells
  go_enter Try.func17, Try.ntmps17
  go_upto_region 1 with fail
  obtain ⟨a1, a2⟩ := HW.out _ rfl
  obtain ⟨q, hq⟩ : ∃ q, w.heap.size = q := ⟨_, rfl⟩
  rw [hq] at a1 ⊢
  have HGQ := Lib.hid (Nat.le_of_eq hq)
  generalize World.alloc _ _ = w1 at a1 a2 ⊢
  clear hq HW HB
  have H0 := Lib.hid a1
  have HK := Lib.hid a2
  have c0 := a1.at_ 0 (by omega)
  have c1 := a1.at_ 1 (by omega)
  have c2 := a1.at_ 2 (by omega)
  have c3 := a1.at_ 3 (by omega)
  have c4 := a1.at_ 4 (by omega)
  have c5 := a1.at_ 5 (by omega)
  clear a1 a2
  go_wp2_with fail
  refine (show Calls _ _ _ _ _ from HFT.out _).mono ?_
  rintro e w2 ⟨rfl, hk2⟩
  have HK2 := Lib.hid (HK.out.trans hk2)
  replace H0 := Lib.hid (H0.out.keep hk2 trivial)
  clear hk2 HK HFT c0 c1 c2 c3 c4 c5
  cases hs : smallB f with
  | false =>
    have HS := Lib.hid hs
    clear hs
    go_wp2_with fail
    go_ret
    exact ⟨fun h => (by rw [HS.out] at h; cases h), fun _ => ⟨⟨none, 0, rfl⟩, HK2.out⟩⟩
  | true =>
    have HS := Lib.hid hs
    clear hs
    have HP := Lib.hid (show Calls Try.prog 27 #[.slice none 0 0, .slice (some ⟨q, 1, none⟩) 5 5] w2 fun e w' => ∃ v', e = .returned v' ∧ OwnB w' w2.heap.size v' (encV f) ∧ Kp w2 w' from
      (put_any none (some ⟨q, 1, none⟩) 0 5 (fun _ => True) (fun _ => True) [] (five f) w2 (Row.nil _ _ _) (H0.out.five _ trivial) HN.out (by simp) (by simp [five])).mono fun e w' ⟨v, h1, h2, h3⟩ => ⟨v, h1, by rw [← enc_puts]; simpa using h2, h3⟩)
    clear H0 HN
    go_wp2_with fail
    refine (show Calls _ _ _ _ _ from HP.out).mono ?_
    rintro e w3 ⟨v, rfl, ho, hk3⟩
    have HR := Lib.hid (vown_row ho)
    have HK3 := Lib.hid (HK2.out.trans hk3)
    have HSZ := Lib.hid HK2.out.size
    clear ho hk3 HK2 HP
    go_wp2_with fail
    go_ret
    refine ⟨fun _ => ?_, fun h => (by rw [HS.out] at h; cases h)⟩
    obtain ⟨A, c, rfl, h1, h2, h3⟩ := HR.out
    exact ⟨A, c, rfl, h1, h2, h3.mono fun b _ hb => ⟨Nat.le_trans HSZ.out hb.1, hb.2⟩, HK3.out⟩

/-! ### Decode -/
/-- A block of five pointers. -/
def pcells (P : Nat → Option Addr) : Array Value := #[.pointer (P 0), .pointer (P 1), .pointer (P 2), .pointer (P 3), .pointer (P 4)]
def PBlk (w : World) (g : Nat) (P : Nat → Option Addr) : Prop := w.heap[g]? = some (.cells (pcells P) 54 (0, 0))
def updP (P : Nat → Option Addr) (i : Nat) (x : Option Addr) : Nat → Option Addr := fun j => if j = i then x else P j
/-- The first k places stand. -/
def placed (g k : Nat) : Nat → Option Addr := fun i => if i < k then some ⟨g, 1 + i, none⟩ else none
theorem placed_next (g k : Nat) : updP (placed g k) k (some ⟨g, 1 + k, none⟩) = placed g (k + 1) := by
  funext i
  unfold updP placed
  by_cases e : i = k
  · subst e; simp
  · rw [if_neg e]
    by_cases e2 : i < k
    · rw [if_pos e2, if_pos (by omega)]
    · rw [if_neg e2, if_neg (by omega)]
def places (g : Nat) : List (Option Addr) := [some ⟨g, 1, none⟩, some ⟨g, 2, none⟩, some ⟨g, 3, none⟩, some ⟨g, 4, none⟩, some ⟨g, 5, none⟩]
section
variable {w w' : World} {g : Nat} {P : Nat → Option Addr} {G : Nat → Prop}
theorem PBlk.keep (h : PBlk w g P) (hk : Keeps G w w') (hq : G g) : PBlk w' g P := (hk.block g hq (Array.getElem?_eq_some_iff.1 h).1).trans h
theorem PBlk.lt (h : PBlk w g P) : g < w.heap.size := (Array.getElem?_eq_some_iff.1 h).1
theorem pcells_at (P : Nat → Option Addr) (i : Nat) (hi : i < 5) : (pcells P)[i]? = some (.pointer (P i)) := by
  have h : i = 0 ∨ i = 1 ∨ i = 2 ∨ i = 3 ∨ i = 4 := by omega
  rcases h with rfl | rfl | rfl | rfl | rfl <;> rfl
theorem PBlk.at_ (h : PBlk w g P) (i : Nat) (hi : i < 5) : w.cell? ⟨g, i, none⟩ = some (.pointer (P i)) := (cell_of_block h i).trans (pcells_at P i hi)
theorem PBlk.fz (h : PBlk w g P) (i : Nat) : w.frozen? ⟨g, i, none⟩ = false := unfrozen_of_block h i
theorem PBlk.set (h : PBlk w g P) (i : Nat) (hi : i < 5) (x : Option Addr) : PBlk (w.setCell ⟨g, i, none⟩ (.pointer x)) g (updP P i x) := by
  refine (block_setCell h _).trans ?_
  have h : i = 0 ∨ i = 1 ∨ i = 2 ∨ i = 3 ∨ i = 4 := by omega
  rcases h with rfl | rfl | rfl | rfl | rfl <;> rfl
theorem PBlk.row {g1 : Nat} (h : PBlk w g (placed g1 5)) (F : Nat → Prop) (hF : F g) : Row w (some ⟨g, 0, none⟩) F ((places g1).map Value.pointer) := fun _ => by
  refine ⟨g, 0, rfl, hF, fun k v hk => ?_⟩
  have hk5 : k < 5 := by
    have := (List.getElem?_eq_some_iff.1 hk).1
    simpa [places] using this
  have e := h.at_ k hk5
  rw [Nat.zero_add]
  have hc : k = 0 ∨ k = 1 ∨ k = 2 ∨ k = 3 ∨ k = 4 := by omega
  rcases hc with rfl | rfl | rfl | rfl | rfl <;> (simp [places] at hk; rw [← hk]; exact e)
end
/-- Five numbers as a vector. -/
def ofL (xs : List Int) : Nat → Int := fun i => if i = 0 then 0 else xs.getD (i - 1) 0
theorem VBlk.stored {w : World} {g : Nat} {t : TypeId} (h : VBlk w g t (fun _ => 0)) (a b c d e : Int) : VBlk (stores w (places g) [a, b, c, d, e]) g t (ofL [a, b, c, d, e]) := by
  have hb := ((((h.set 1 (by omega) a).set 2 (by omega) b).set 3 (by omega) c).set 4 (by omega) d).set 5 (by omega) e
  have e : vcells (upd (upd (upd (upd (upd (fun _ => 0) 1 a) 2 b) 3 c) 4 d) 5 e) = vcells (ofL [a, b, c, d, e]) := by simp [vcells, upd, ofL]
  unfold VBlk at hb ⊢
  rw [e] at hb
  exact hb
theorem five_ofL (a b c d e : Int) : five (ofL [a, b, c, d, e]) = [a, b, c, d, e] := rfl
theorem allZ_len : ∀ (n : Nat) (l : List UInt8) (xs : List Int) (k : Nat), allZ n l = (xs, k, 0) → xs.length = n ∧ ∃ r, l = putsZ xs ++ r ∧ k = (putsZ xs).length ∧ ∀ x ∈ xs, -9223372036854775808 ≤ x ∧ x < 9223372036854775808 := by
  intro n
  induction n with
  | zero =>
    intro l xs k h
    simp only [allZ, Prod.mk.injEq, and_true] at h
    obtain ⟨rfl, rfl⟩ := h
    exact ⟨rfl, l, by simp [putsZ], by simp [putsZ], fun x hx => by cases hx⟩
  | succ n ih =>
    intro l xs k h
    rcases hg : getZ l with ⟨x, j, e⟩
    cases e with
    | succ e => rw [allZ_err hg (by omega)] at h; simp at h
    | zero =>
      rw [allZ_ok hg] at h
      obtain ⟨r, hl, hj, b1, b2⟩ := getZ_ok l x j hg
      simp only [Prod.mk.injEq] at h
      obtain ⟨rfl, rfl, h3⟩ := h
      obtain ⟨h4, r2, h5, h6, h7⟩ := ih (l.drop j) (allZ n (l.drop j)).1 (allZ n (l.drop j)).2.1 (by rw [← h3])
      have hd : l.drop j = r := by rw [hl, hj]; simp
      refine ⟨by simp [h4], r2, ?_, ?_, fun y hy => ?_⟩
      · rw [hd] at h5
        rw [hd, hl]
        have : putsZ (x :: (allZ n r).1) = putZ x ++ putsZ (allZ n r).1 := by simp [putsZ]
        rw [this, List.append_assoc, ← h5]
      · rw [h6]
        have : putsZ (x :: (allZ n (l.drop j)).1) = putZ x ++ putsZ (allZ n (l.drop j)).1 := by simp [putsZ]
        rw [this, List.length_append, hj]
      · rcases List.mem_cons.1 hy with rfl | hy
        · exact ⟨b1, b2⟩
        · exact h7 y hy
/-- What Decode answers. -/
def decV (l : List UInt8) : Option (Nat → Int) :=
  if (allZ 5 l).2.2 = 0 ∧ (allZ 5 l).2.1 = l.length ∧ fitsB (ofL (allZ 5 l).1) = true then some (ofL (allZ 5 l).1) else none
theorem decV_enc {f : Nat → Int} (hf : VOk f) (hs : smallB f = true) : ∃ g, decV (encV f) = some g ∧ vagg g = vagg f := by
  have hz := allZ_puts (five f) [] (fun n hn => by
    have h : ∃ i, n = f i := by
      simp only [five, List.mem_cons, List.not_mem_nil, or_false] at hn
      rcases hn with rfl | rfl | rfl | rfl | rfl
      · exact ⟨1, rfl⟩
      · exact ⟨2, rfl⟩
      · exact ⟨3, rfl⟩
      · exact ⟨4, rfl⟩
      · exact ⟨5, rfl⟩
    obtain ⟨i, rfl⟩ := h
    have := hf.low i
    have := hf.high i
    omega)
  have e : (five f).flatMap putZ = encV f := enc_puts f
  rw [List.append_nil, e] at hz
  have hl : (five f).length = 5 := rfl
  rw [hl] at hz
  have hv : ∀ i, i < 6 → ofL (five f) i = f i := by
    intro i hi
    have h : i = 0 ∨ i = 1 ∨ i = 2 ∨ i = 3 ∨ i = 4 ∨ i = 5 := by omega
    rcases h with rfl | rfl | rfl | rfl | rfl | rfl
    · exact hf.zero.symm
    all_goals rfl
  refine ⟨ofL (five f), ?_, vagg_eq hv⟩
  unfold decV
  rw [hz]
  have hfit : fitsB (ofL (five f)) = true := by
    rw [← fits_small hf] at hs
    exact fitsB_iff.2 fun i hi => by rw [hv (i + 1) (by omega)]; exact fitsB_iff.1 hs i hi
  rw [if_pos ⟨rfl, rfl, hfit⟩]
theorem decV_some {l : List UInt8} {g : Nat → Int} (h : decV l = some g) : VOk g ∧ smallB g = true ∧ encV g = l := by
  unfold decV at h
  split at h
  · rename_i hc
    obtain ⟨h1, h2, h3⟩ := hc
    rcases hz : allZ 5 l with ⟨xs, k, e⟩
    rw [hz] at h h1 h2 h3
    simp only at h h1 h2 h3
    subst h1
    cases h
    obtain ⟨h4, r, h5, h6, h7⟩ := allZ_len 5 l xs k hz
    match xs, h4 with
    | [a, b, c, d, e], _ =>
      have hf := fitsB_iff.1 h3
      have ho : VOk (ofL [a, b, c, d, e]) := by
        have p : ∀ i, 0 ≤ ofL [a, b, c, d, e] i ∧ ofL [a, b, c, d, e] i < 9223372036854775808 := by
          intro i
          by_cases hi : i = 0
          · subst hi; exact ⟨Int.le_refl _, (by decide : (0 : Int) < 9223372036854775808)⟩
          · by_cases hi2 : i < 6
            · have := hf (i - 1) (by omega)
              rw [show i - 1 + 1 = i by omega] at this
              omega
            · have e0 : ofL [a, b, c, d, e] i = 0 := by
                unfold ofL
                rw [if_neg hi, List.getD_eq_getElem?_getD, List.getElem?_eq_none (by simp; omega)]
                rfl
              rw [e0]; decide
        exact ⟨rfl, fun i => (p i).1, fun i => (p i).2⟩
      refine ⟨ho, by rw [← fits_small ho]; exact h3, ?_⟩
      rw [← enc_puts, five_ofL]
      have hr : r = [] := by
        have := congrArg List.length h5
        rw [List.length_append, ← h6, h2] at this
        exact List.eq_nil_of_length_eq_zero (by omega)
      rw [hr, List.append_nil] at h5
      exact h5.symm
  · cases h

end Go.Proofs.Ytdgpdooikfamlaa
