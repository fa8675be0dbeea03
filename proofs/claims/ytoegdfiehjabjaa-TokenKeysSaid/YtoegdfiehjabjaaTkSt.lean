/-
  THE LANDED RIGHTS: how they lie in memory as a whole; batchOf, whatever there was; New, Len.
-/
import Derived.Test.YtoegdfiehjabjaaTkBatch
namespace Go.Proofs.Ytoegdfiehjabjaa
open Go Go.RowKit Go.Joins Go.Maps Go.ChangeShapes Go.WideShapes Go.ChangeAt

/-- Rights of which some were given. -/
structure TkM (w : World) (t : Nat) (F : Nat → Prop) (L : List Tk) (mo ml no nl : Nat) (B : Nat → Nat) (go gl : Lit → Option Value) : Prop where
  blk : TkBlk w t (L.length : Int) (some mo) (some ml)
  hmo : MapIs Try.prog 2 w mo no go
  hml : MapIs Try.prog 9 w ml nl gl
  no : no ≤ L.length
  nl : nl ≤ L.length
  tab : Tab L B go gl
  bat : Bat w L B
  ft : F t
  fo : F mo
  fl : F ml
  fb : ∀ (i : Nat) (x : Tk), L[i]? = some x → x.used = false → F (B i)
  ne : mo ≠ ml
  keys : ∀ x ∈ L, x.key.size ≤ 1000000
/-- .. or none yet. -/
def TkSt (w : World) (t : Nat) (F : Nat → Prop) (L : List Tk) : Prop := (L = [] ∧ TkBlk w t 0 none none ∧ F t) ∨ ∃ mo ml no nl B go gl, TkM w t F L mo ml no nl B go gl

section
variable {w w' : World} {t : Nat} {F G : Nat → Prop} {L : List Tk} {mo ml no nl : Nat} {B : Nat → Nat} {go gl : Lit → Option Value}
theorem Bat.lt (h : Bat w L B) {i : Nat} {x : Tk} (hi : L[i]? = some x) (hu : x.used = false) : B i < w.heap.size := by
  obtain ⟨n, hb, _⟩ := h.at_ i x hi hu
  exact hb.lt
theorem Bat.ne_t (h : Bat w L B) {n : Int} {a c : Option Nat} (ht : TkBlk w t n a c) {i : Nat} {x : Tk} (hi : L[i]? = some x) (hu : x.used = false) : B i ≠ t := by
  obtain ⟨n, hb, _⟩ := h.at_ i x hi hu
  exact ht.ne hb
theorem Bat.ne_m (h : Bat w L B) {k : TypeId} {m N : Nat} {g : Lit → Option Value} (hm : MapIs Try.prog k w m N g) {i : Nat} {x : Tk} (hi : L[i]? = some x) (hu : x.used = false) : B i ≠ m := by
  obtain ⟨n, hb, _⟩ := h.at_ i x hi hu
  exact hm.not_cells hb
theorem TkM.mono (h : TkM w t F L mo ml no nl B go gl) (hF : ∀ b, b < w.heap.size → F b → G b) : TkM w t G L mo ml no nl B go gl :=
  ⟨h.blk, h.hmo, h.hml, h.no, h.nl, h.tab, h.bat, hF _ h.blk.lt h.ft, hF _ h.hmo.lt h.fo, hF _ h.hml.lt h.fl, fun i x hi hu => hF _ (h.bat.lt hi hu) (h.fb i x hi hu), h.ne, h.keys⟩
theorem TkM.keep (h : TkM w t F L mo ml no nl B go gl) (hk : Keeps F w w') : TkM w' t F L mo ml no nl B go gl :=
  ⟨h.blk.keep hk h.ft, h.hmo.keep hk h.fo, h.hml.keep hk h.fl, h.no, h.nl, h.tab, h.bat.keep hk h.fb, h.ft, h.fo, h.fl, h.fb, h.ne, h.keys⟩
theorem TkSt.mono (h : TkSt w t F L) (hF : ∀ b, b < w.heap.size → F b → G b) : TkSt w t G L := by
  rcases h with ⟨h1, h2, h3⟩ | ⟨mo, ml, no, nl, B, go, gl, h⟩
  · exact .inl ⟨h1, h2, hF _ h2.lt h3⟩
  · exact .inr ⟨mo, ml, no, nl, B, go, gl, h.mono hF⟩
theorem TkSt.keep (h : TkSt w t F L) (hk : Keeps F w w') : TkSt w' t F L := by
  rcases h with ⟨h1, h2, h3⟩ | ⟨mo, ml, no, nl, B, go, gl, h⟩
  · exact .inl ⟨h1, h2.keep hk h3, h3⟩
  · exact .inr ⟨mo, ml, no, nl, B, go, gl, h.keep hk⟩
theorem ptr_inj {a b : Nat} (h : some (Value.pointer (some ⟨a, 0, none⟩)) = some (Value.pointer (some ⟨b, 0, none⟩))) : a = b := by
  injection h with h
  injection h with h
  injection h with h
  injection h
/-- What live says of a key that it has. -/
theorem TkM.hit (h : TkM w t F L mo ml no nl B go gl) {k : ByteArray} {v : Value} (hv : gl (.string k.data.toList) = some v) :
    ∃ (i : Nat) (x : Tk), L[i]? = some x ∧ x.used = false ∧ x.good = true ∧ x.key = k ∧ v = .pointer (some ⟨B i, 0, none⟩) ∧ BtBlk w (B i) k ((tkCount (sameT k) L : Nat) : Int) false := by
  obtain ⟨i, x, hi, hu, hg, e⟩ := h.tab.l2 _ _ hv
  have e := str_inj e
  subst e
  have h1 := h.tab.l1 i x hi hu hg
  rw [hv] at h1
  obtain ⟨n, hb, hn⟩ := h.bat.at_ i x hi hu
  rw [hg, hn hg] at hb
  exact ⟨i, x, hi, hu, hg, rfl, Option.some.inj h1, hb⟩
theorem TkM.miss (h : TkM w t F L mo ml no nl B go gl) {k : ByteArray} (hv : gl (.string k.data.toList) = none) : ∀ x ∈ L, hits (sameT k) x = false := fun x hx => by
  cases hq : hits (sameT k) x with
  | false => rfl
  | true =>
    obtain ⟨e1, e2, e3⟩ := hits_one.1 hq
    obtain ⟨i, hi⟩ := List.getElem?_of_mem hx
    have := h.tab.l1 i x hi e3 e2
    rw [← e1, hv] at this
    cases this
end

/-- Behind batchOf: the key has its batch, and live leads to it. -/
structure Mid (w w' : World) (t : Nat) (F : Nat → Prop) (L : List Tk) (k : ByteArray) (b mo ml no nl : Nat) (B : Nat → Nat) (go gl gl0 : Lit → Option Value) : Prop where
  blk : TkBlk w' t (L.length : Int) (some mo) (some ml)
  hmo : MapIs Try.prog 2 w' mo no go
  hml : MapIs Try.prog 9 w' ml nl gl
  no : no ≤ L.length
  nl : nl ≤ L.length + 1
  tab : Tab L B go gl0
  g1 : gl (.string k.data.toList) = some (.pointer (some ⟨b, 0, none⟩))
  g2 : ∀ l, l ≠ .string k.data.toList → gl l = gl0 l
  bat : Bat w' L B
  hb : BtBlk w' b k ((tkCount (sameT k) L : Nat) : Int) false
  same : ∀ (i : Nat) (x : Tk), L[i]? = some x → x.used = false → x.good = true → x.key = k → B i = b
  ft : F t
  fo : F mo ∨ w.heap.size ≤ mo
  fl : F ml ∨ w.heap.size ≤ ml
  fb : ∀ (i : Nat) (x : Tk), L[i]? = some x → x.used = false → F (B i)
  fn : F b ∨ w.heap.size ≤ b
  ne : mo ≠ ml
  keys : ∀ x ∈ L, x.key.size ≤ 1000000
  kp : Keeps (fun b => ¬ F b) w w'

theorem batchOf_any (w : World) (t : Nat) (F : Nat → Prop) (L : List Tk) (k : ByteArray) (h : TkSt w t F L) (hL : L.length ≤ 1000) (hk : k.size ≤ 1000000) :
    Calls Try.prog 20 #[.pointer (some ⟨t, 0, none⟩), .string k] w fun e w' => ∃ b mo ml no nl B go gl gl0, e = .returned (.pointer (some ⟨b, 0, none⟩)) ∧ Mid w w' t F L k b mo ml no nl B go gl gl0 := by
  rcases h with ⟨rfl, hb, hF⟩ | ⟨mo, ml, no, nl, B, go, gl, h⟩
  · refine (batchZero_any w t 0 k hb hk).mono ?_
    rintro e w' ⟨b, mo, ml, rfl, l1, l2, l3, hne, hB, hT, hm1, hm2, hkp⟩
    refine ⟨b, mo, ml, 0, 1, fun _ => 0, _, _, fun _ => none, rfl, hT, hm1, hm2, Nat.le_refl _, Nat.le_refl _, ?_, mput_same _ _ _, fun l hl => mput_other _ _ hl, ?_, hB, fun i x hi => by simp at hi, hF, .inr l2, .inr l3, fun i x hi => by simp at hi, .inr l1, hne, fun x hx => by simp at hx, hkp.mono fun b _ hb e => hb (e ▸ hF)⟩
    · exact ⟨fun i x hi => by simp at hi, fun l v hl => (by cases hl), fun i x hi => by simp at hi, fun l v hl => (by cases hl)⟩
    · exact ⟨fun i x hi => by simp at hi, fun i j x y hi => by simp at hi⟩
  · cases hg : gl (.string k.data.toList) with
    | some v =>
      obtain ⟨i, x, hi, hu, hgd, hxk, rfl, hB⟩ := h.hit hg
      refine (batchHit_any w t _ mo ml nl (B i) gl k h.blk h.hml hg hk).mono ?_
      rintro e w' ⟨rfl, rfl⟩
      refine ⟨B i, mo, ml, no, nl, B, go, gl, gl, rfl, h.blk, h.hmo, h.hml, h.no, by have := h.nl; omega, h.tab, hg, fun _ _ => rfl, h.bat, hB, fun j y hj hju hjg e => ?_, h.ft, .inl h.fo, .inl h.fl, h.fb, .inl (h.fb i x hi hu), h.ne, h.keys, Keeps.refl _ _⟩
      have := h.tab.l1 j y hj hju hjg
      rw [e, hg] at this
      exact (ptr_inj this).symm
    | none =>
      refine (batchNew_any w t _ mo ml nl gl k h.blk h.hml hg hk (by have := h.nl; omega)).mono ?_
      rintro e w' ⟨b, rfl, l1, hB, hm, hkp⟩
      have hmiss := h.miss hg
      refine ⟨b, mo, ml, no, nl + 1, B, go, _, gl, rfl, h.blk.keep hkp (h.hml.not_cells h.blk), h.hmo.keep hkp h.ne, hm, h.no, by have := h.nl; omega, h.tab, mput_same _ _ _, fun l hl => mput_other _ _ hl, h.bat.keep hkp fun i x hi hu => h.bat.ne_m h.hml hi hu, ?_, fun j y hj hju hjg e => ?_, h.ft, .inl h.fo, .inl h.fl, h.fb, .inr l1, h.ne, h.keys, hkp.mono fun b _ hb e => hb (e ▸ h.fl)⟩
      · rw [tkCount_zero _ _ hmiss]; exact hB
      · have := hmiss y (List.mem_of_getElem? hj)
        rw [hits_one.2 ⟨e.symm, hjg, hju⟩] at this
        cases this

theorem tnew_any (w : World) : Calls Try.prog 8 #[] w fun e w' => e = .returned (.pointer (some ⟨w.heap.size, 0, none⟩)) ∧ w' = w.alloc (.cells #[.int .i64 0, .map none, .map none] 50) := by
  go_enter Try.func8, Try.ntmps8
  go_wp2_with fail
  go_ret
  exact ⟨rfl, rfl⟩
theorem tlen_any (w : World) (t : Nat) (F : Nat → Prop) (L : List Tk) (h : TkSt w t F L) : Calls Try.prog 18 #[.pointer (some ⟨t, 0, none⟩)] w fun e w' => e = .returned (.int .i64 (tkLen L : Int)) ∧ w = w' := by
  rcases h with ⟨rfl, hb, hF⟩ | ⟨mo, ml, no, nl, B, go, gl, h⟩
  · have c1 := hb.c1
    have hlen := fun ty => Maps.len_nil (w := w) Try.underlying47 ty
    clear hb
    go_enter Try.func18, Try.ntmps18
    go_wp2_with fail
    go_ret
    exact ⟨rfl, rfl⟩
  · have c1 := h.blk.c1
    obtain ⟨ls, hnd, hm, hll⟩ := h.tab.open_len
    have hlen := h.hmo.len_is num_keyed Try.underlying47 ls hnd hm
    rw [hll] at hlen
    clear h hll hm hnd
    go_enter Try.func18, Try.ntmps18
    go_wp2_with fail
    go_ret
    exact ⟨rfl, rfl⟩
theorem tlen_nil (w : World) : Calls Try.prog 18 #[.pointer none] w fun e w' => e = .returned (.int .i64 0) ∧ w = w' := by
  go_enter Try.func18, Try.ntmps18
  go_wp2_with fail
  go_ret
  exact ⟨rfl, rfl⟩

end Go.Proofs.Ytoegdfiehjabjaa
