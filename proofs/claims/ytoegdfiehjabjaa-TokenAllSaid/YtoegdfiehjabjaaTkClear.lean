/-
  THE LANDED RIGHTS: Clear.
-/
import Derived.Test.YtoegdfiehjabjaaTkSt
namespace Go.Proofs.Ytoegdfiehjabjaa
open Go Go.RowKit Go.Joins Go.Maps Go.ChangeShapes Go.WideShapes Go.ChangeAt

theorem MapIs.len_some {P : Program} {k e t : TypeId} {w : World} {m N : Nat} {g : Lit → Option Value} (h : MapIs P k w m N g) (ht : P.underlying t = some (.map k e)) :
    ∃ n : Nat, n ≤ N ∧ (∀ ty, (Builtin.len_ #[t] ty #[.map (some m)]).run P w = .ok (.int .i64 (n : Int)) w) ∧ (n = 0 → ∀ l, g l = none) := by
  obtain ⟨D, hown, h1, h2⟩ := h
  refine ⟨Maps.size D, hown.size_le, fun ty => hown.len ht ty, fun h0 l => ?_⟩
  obtain ⟨es, hD⟩ := hown.isMap
  subst hD
  rw [size_eq, List.length_eq_zero_iff] at h0
  subst h0
  have := h1 l
  rw [has_eq] at this
  cases hg : g l with
  | none => rfl
  | some v => rw [hg] at this; cases this

/-- The loop of Clear: of the keys those of p are done. -/
structure ClrAt (w wr : World) (t : Nat) (F : Nat → Prop) (L : List Tk) (mo ml no nl r : Nat) (B : Nat → Nat) (go gl : Lit → Option Value) (left : Lit → Bool) (cnt : Nat) (p : ByteArray → Bool) : Prop where
  rg : MapRg Try.prog 9 wr ml r nl gl left cnt
  bat : Bat wr (tkKill p L) B
  blk : TkBlk wr t (L.length : Int) (some mo) (some ml)
  hmo : MapIs Try.prog 2 wr mo no go
  done : ∀ k, (gl (.string k.data.toList)).isSome = true → (p k = true ↔ left (.string k.data.toList) = false)
  kp : Keeps (fun b => ¬ F b) w wr

section
variable {w wr : World} {t : Nat} {F : Nat → Prop} {L : List Tk} {mo ml no nl r cnt : Nat} {B : Nat → Nat} {go gl : Lit → Option Value} {left : Lit → Bool} {p : ByteArray → Bool}
theorem MapRg.not_cells {P : Program} {k : TypeId} {m N : Nat} {g : Lit → Option Value} (h : MapRg P k wr m r N g left cnt) {b : Nat} {C : Array Value} {T : TypeId} {fr : Nat × Nat} (hb : wr.heap[b]? = some (.cells C T fr)) : b ≠ r := by
  obtain ⟨D, ⟨es, clock, since, seen, c0, _, _, _, _, hr, _⟩, _⟩ := h
  rintro rfl
  rw [hb] at hr
  cases hr
theorem MapRg.not_map {P : Program} {k : TypeId} {m N : Nat} {g : Lit → Option Value} (h : MapRg P k wr m r N g left cnt) {k' : TypeId} {b N' : Nat} {g' : Lit → Option Value} (hb : MapIs P k' wr b N' g') : b ≠ r := by
  obtain ⟨D, ⟨es, clock, since, seen, c0, _, _, _, _, hr, _⟩, _⟩ := h
  obtain ⟨es', clock', hb'⟩ := hb.isBlk
  rintro rfl
  rw [hb'] at hr
  cases hr
/-- An entry has come: its batch. -/
theorem ClrAt.come (h : ClrAt w wr t F L mo ml no nl r B go gl left cnt p) (ht : Tab L B go gl) {s : ByteArray} {v : Value} (hl : left (.string s.data.toList) = true) (hv : gl (.string s.data.toList) = some v) :
    ∃ (i : Nat) (x : Tk), L[i]? = some x ∧ x.used = false ∧ x.good = true ∧ x.key = s ∧ v = .pointer (some ⟨B i, 0, none⟩) ∧ (tkKill p L)[i]? = some x ∧ BtBlk wr (B i) s ((tkCount (sameT s) (tkKill p L) : Nat) : Int) false := by
  obtain ⟨i, x, hi, hu, hg, e⟩ := ht.l2 _ _ hv
  have e := str_inj e
  subst e
  have h1 := ht.l1 i x hi hu hg
  rw [hv] at h1
  have hp : p x.key = false := by
    cases hq : p x.key with
    | false => rfl
    | true =>
      have := (h.done x.key (by rw [hv]; rfl)).1 hq
      rw [hl] at this; cases this
  have hx : tkDead p x = x := by
    unfold tkDead hits
    rw [hp]; rfl
  have hi' := tkKill_of (p := p) hi
  rw [hx] at hi'
  obtain ⟨n, hb, hn⟩ := h.bat.at_ i x hi' hu
  rw [hg, hn hg] at hb
  exact ⟨i, x, hi, hu, hg, rfl, Option.some.inj h1, hi', hb⟩
theorem ClrAt.next (h : ClrAt w wr t F L mo ml no nl r B go gl left cnt p) (_ht : Tab L B go gl) (hr : w.heap.size ≤ r) (_hne : mo ≠ ml) (fb : ∀ (i : Nat) (x : Tk), L[i]? = some x → x.used = false → F (B i)) {i : Nat} {x : Tk} (hi : L[i]? = some x) (hu : x.used = false) (hg : x.good = true)
    (hi' : (tkKill p L)[i]? = some x) (_hv : (gl (.string x.key.data.toList)).isSome = true) {w1 : World} {cnt' : Nat} (hrg : MapRg Try.prog 9 w1 ml r nl gl (fun z => left z && !z.sameKey (.string x.key.data.toList)) cnt') (hgr : wr.grownBy w1 (some r)) :
    ClrAt w (w1.setCell ⟨B i, 2, none⟩ (.bool true)) t F L mo ml no nl r B go gl (fun z => left z && !z.sameKey (.string x.key.data.toList)) cnt' (fun k => p k || sameT x.key k) ∧ BtBlk w1 (B i) x.key ((tkCount (sameT x.key) (tkKill p L) : Nat) : Int) false := by
  have k1 : Keeps (fun y => y ≠ r) wr w1 := Keeps.of_grown hgr fun b e _ hn => by cases e; exact hn rfl
  have hBr : ∀ (j : Nat) (y : Tk), (tkKill p L)[j]? = some y → y.used = false → B j ≠ r := fun j y hj hju => by
    obtain ⟨n, hb, -⟩ := h.bat.at_ j y hj hju
    exact h.rg.not_cells hb
  have hB1 := h.bat.keep k1 hBr
  have hT1 := h.blk.keep k1 (h.rg.not_cells h.blk)
  have hM1 := h.hmo.keep k1 (h.rg.not_map h.hmo)
  obtain ⟨n, hb, hn⟩ := hB1.at_ i x hi' hu
  rw [hg, hn hg] at hb
  have k2 : Keeps (fun y => y ≠ B i) w1 (w1.setCell ⟨B i, 2, none⟩ (.bool true)) := (Keeps.refl _ _).setCell (.inr fun h => h rfl) _
  refine ⟨⟨hrg.keep k2 (Ne.symm (hrg.is.not_cells hb)) (Ne.symm (hrg.not_cells hb)), ?_, hT1.keep k2 (Ne.symm (hT1.ne hb)), hM1.keep k2 (Ne.symm (hM1.not_cells hb)), fun k hk => ?_, ?_⟩, hb⟩
  · rw [← tkKill_two]
    exact hB1.kill hi' hu hg
  · have hd := h.done k hk
    have e : Lit.sameKey (.string k.data.toList) (.string x.key.data.toList) = sameT x.key k := by
      rw [Bool.eq_iff_iff, sameT_iff]
      constructor
      · intro hs; exact (str_inj (WideAt.sameKey_eq hs)).symm
      · rintro rfl; exact WideAt.sameKey_self trivial
    rw [e]
    cases hq : sameT x.key k <;> simp [hd]
  · have h1 : Keeps (fun b => ¬ F b ∧ b ≠ r) w w1 := (h.kp.mono fun _ _ h => h.1).trans (k1.mono fun _ _ h => h.2)
    exact (h1.mono fun b hb hF => ⟨hF, by omega⟩).trans (k2.mono fun b _ hb e => hb (e ▸ fb i x hi hu))
theorem BtT.keep2 {n : Int} {a c m3 : Option Nat} {wz w3 : World} (h : TkBlk wr t n a c) (hwz : wr.setCell ⟨t, 2, none⟩ (.map m3) = wz) (hk : Kp wz w3) : TkBlk w3 t n a m3 := by
  rw [← hwz] at hk
  exact (h.set2 m3).keep hk trivial
/-- All are done. -/
theorem ClrAt.all (h : ClrAt w wr t F L mo ml no nl r B go gl left cnt p) (ht : Tab L B go gl) (hl : ∀ k, left k = false) : tkKill p L = tkKill allKeys L ∧ tkCount p L = tkCount allKeys L := by
  have hx : ∀ x ∈ L, hits p x = hits allKeys x := fun x hx => by
    unfold hits allKeys
    cases hg : x.good <;> cases hu : x.used <;> simp
    obtain ⟨i, hi⟩ := List.getElem?_of_mem hx
    exact (h.done x.key (by rw [ht.l1 i x hi hu hg]; rfl)).2 (hl _)
  exact ⟨tkKill_congr L hx, tkCount_congr L hx⟩
theorem ClrAt.end_ {w3 : World} {m3 : Nat} (h : ClrAt w wr t F L mo ml no nl r B go gl left cnt p) (hM : TkM w t F L mo ml no nl B go gl) (hl : ∀ k, left k = false) (hm3 : m3 = wr.heap.size)
    (hw3 : (wr.setCell ⟨t, 2, none⟩ (.map (some m3))).alloc (.map #[] 0) = w3) : TkSt w3 t (fun b => F b ∨ w.heap.size ≤ b) (tkKill allKeys L) ∧ Keeps (fun b => ¬ F b) w w3 := by
  obtain ⟨wz, hwz⟩ : ∃ wz, wr.setCell ⟨t, 2, none⟩ (.map (some m3)) = wz := ⟨_, rfl⟩
  rw [hwz] at hw3
  have hs : wz.heap.size = wr.heap.size := by rw [← hwz]; simp
  have k1 : Keeps (fun x => x ≠ t) wr wz := by rw [← hwz]; exact (Keeps.refl _ _).setCell (.inr fun h => h rfl) _
  have k2 : Kp wz w3 := by rw [← hw3]; exact (Keeps.refl _ _).alloc _
  have hB := h.bat
  rw [(h.all hM.tab hl).1] at hB
  have hml := MapIs.made Try.prog 9 wz
  rw [hs, ← hm3, hw3] at hml
  have hlt := h.hmo.lt
  refine ⟨.inr ⟨mo, m3, no, 0, B, go, _, ?_, (h.hmo.keep k1 (Ne.symm (h.hmo.not_cells h.blk))).keep k2 trivial, hml, by rw [tkKill_len]; exact hM.no, Nat.zero_le _, hM.tab.clear, (hB.keep k1 fun i x hi hu => hB.ne_t h.blk hi hu).keep k2 fun _ _ _ _ => trivial, .inl hM.ft, .inl hM.fo, .inr (by have := h.kp.size; omega), fun i x hi hu => ?_, by omega, fun y hy => ?_⟩, ?_⟩
  · rw [tkKill_len]
    exact BtT.keep2 h.blk hwz k2
  · obtain ⟨z, hz, rfl⟩ := tkKill_at hi
    rw [tkDead_used] at hu
    exact .inl (hM.fb i z hz hu)
  · obtain ⟨j, hj⟩ := List.getElem?_of_mem hy
    obtain ⟨z, hz, rfl⟩ := tkKill_at hj
    rw [tkDead_key]
    exact hM.keys z (List.mem_of_getElem? hz)
  · exact (h.kp.trans (k1.mono fun b _ hb e => hb (e ▸ hM.ft))).trans (k2.mono fun _ _ _ => trivial)
end

set_option maxRecDepth 100000 in
theorem tclear_zero (w : World) (t : Nat) (m : Int) (hb : TkBlk w t m none none) :
    Calls Try.prog 17 #[.pointer (some ⟨t, 0, none⟩)] w fun e w' => e = .returned (.int .i64 0) ∧ w = w' := by
  have c2 := hb.c2
  have hlen := fun ty => Maps.len_nil (w := w) Try.underlying48 ty
  clear hb
  go_enter Try.func17, Try.ntmps17
  go_wp2_with fail
  go_ret
  exact ⟨rfl, rfl⟩
theorem tclear_nil (w : World) : Calls Try.prog 17 #[.pointer none] w fun e w' => e = .returned (.int .i64 0) ∧ w = w' := by
  go_enter Try.func17, Try.ntmps17
  go_wp2_with fail
  go_ret
  exact ⟨rfl, rfl⟩

set_option maxRecDepth 100000 in
set_option maxHeartbeats 1000000 in
theorem tclear_some (w : World) (t : Nat) (F : Nat → Prop) (L : List Tk) (mo ml no nl : Nat) (B : Nat → Nat) (go gl : Lit → Option Value) (h : TkM w t F L mo ml no nl B go gl) (hL : L.length ≤ 1000) :
    Calls Try.prog 17 #[.pointer (some ⟨t, 0, none⟩)] w fun e w' => e = .returned (.int .i64 (tkCount allKeys L : Int)) ∧ TkSt w' t (fun b => F b ∨ w.heap.size ≤ b) (tkKill allKeys L) ∧ Keeps (fun b => ¬ F b) w w' := by
  have c2 := h.blk.c2
  have f2 := h.blk.f2
  obtain ⟨n, hnl, hlen, hz⟩ := h.hml.len_some Try.underlying48
  have hnl := Nat.le_trans hnl h.nl
  have hmm := @run_makeMap Try.prog
  cases hn : decide (n = 0) with
  | true =>
    have hn0 : n = 0 := by simpa using hn
    subst hn0
    have hmiss : ∀ x ∈ L, hits allKeys x = false := fun x hx => by
      unfold hits allKeys
      cases hg : x.good <;> cases hu : x.used <;> simp
      obtain ⟨i, hi⟩ := List.getElem?_of_mem hx
      have := h.tab.l1 i x hi hu hg
      rw [hz rfl] at this
      cases this
    have HE1 := Lib.hid (tkCount_zero _ _ hmiss)
    have HE2 := Lib.hid (show TkSt w t (fun b => F b ∨ w.heap.size ≤ b) (tkKill allKeys L) from by rw [tkKill_none _ _ hmiss]; exact .inr ⟨mo, ml, no, nl, B, go, gl, h.mono fun _ _ h => .inl h⟩)
    clear h hz hmiss hn hnl hL
    go_enter Try.func17, Try.ntmps17
    go_wp2_with fail
    go_ret
    exact ⟨by rw [HE1.out]; rfl, HE2.out, Keeps.refl _ _⟩
  | false =>
    have hn0 : ((n : Int) == 0) = false := by
      have : ¬ n = 0 := by simpa using hn
      simp; omega
    have H := Lib.hid h
    have HL := Lib.hid hL
    clear h hz hn hL
    go_enter Try.func17, Try.ntmps17
    go_wp2_with (at_range; refine H.out.hml.list_range rfl (.tmp 19) rfl str_keyed Try.underlying48 rfl ?_; intro w0 cnt0 hrg0 hg0 hs0)
    go_frame
    obtain ⟨r, hr⟩ : ∃ r, w.heap.size = r := ⟨_, rfl⟩
    rw [hr] at hrg0 ⊢
    have k0 : Kp w w0 := Keeps.of_grown hg0 fun b e => by cases e
    have HA0 := Lib.hid (show ClrAt w w0 t F L mo ml no nl r B go gl (fun l => (gl l).isSome) cnt0 (fun _ => false) from
      ⟨hrg0, by rw [tkKill_none _ _ fun _ _ => rfl]; exact H.out.bat.keep k0 fun _ _ _ _ => trivial, H.out.blk.keep k0 trivial, H.out.hmo.keep k0 trivial, fun k hk => by rw [hk]; simp, k0.mono fun _ _ _ => trivial⟩)
    have HR := Lib.hid (show w.heap.size ≤ r from by omega)
    clear hrg0 hg0 hs0 k0 hr c2 f2 hlen
    go_loopw [3] (fun s wr => ∃ (q cnt : Nat) (left : Lit → Bool) (p : ByteArray → Bool), s = .int .i64 (q : Int) ∧ q ≤ 1000 ∧ Hid (q = tkCount p L) ∧ Hid (ClrAt w wr t F L mo ml no nl r B go gl left cnt p))
      (fun _ wr => wr.rangeLeft ml r)
    case atStart => exact ⟨0, cnt0, _, _, rfl, Nat.zero_le _, Lib.hid (tkCount_zero _ _ fun _ _ => rfl).symm, HA0⟩
    case round =>
      clear HA0
      obtain ⟨q, cnt, left, p, rfl, hq, HQ, HA⟩ := hrel
      go_wp2_with (at_next; refine HA.out.rg.list_next rfl (.tmp 20) rfl str_keyed Try.underlying9 rfl ?_ ?_)
      · intro hl
        have c2 := HA.out.blk.c2
        have f2 := HA.out.blk.f2
        have hlt := HA.out.blk.lt
        have HE := Lib.hid (fun w3 m3 a b => HA.out.end_ (w3 := w3) (m3 := m3) H.out hl a b)
        have HQ2 := Lib.hid (HQ.out.trans (HA.out.all H.out.tab hl).2)
        clear hl
        go_wp2_with fail
        go_ret
        exact ⟨by rw [HQ2.out]; rfl, HE.out _ _ rfl rfl⟩
      · intro s v w1 cnt1 hl hv hrg1 hlt hg1 hs1 hen
        obtain ⟨i, x, hi, hu, hgd, rfl, rfl, hi', -⟩ := HA.out.come H.out.tab hl hv
        obtain ⟨hnx, hb⟩ := HA.out.next H.out.tab HR.out H.out.ne H.out.fb hi hu hgd hi' (by rw [hv]; rfl) hrg1 hg1
        have HB := Lib.hid (bkill_any w1 (B i) x.key _ false hb)
        have HN := Lib.hid hnx
        have HQ3 := Lib.hid (show q + tkCount (sameT x.key) (tkKill p L) = tkCount (fun k => p k || sameT x.key k) L from by rw [HQ.out, tkCount_two])
        have HQ4 := Lib.hid (tkCount_le (fun k => p k || sameT x.key k) L)
        obtain ⟨c, hc⟩ : ∃ c, tkCount (sameT x.key) (tkKill p L) = c := ⟨_, rfl⟩
        rw [hc] at HB HQ3
        have hqc : q + c ≤ 1000 := by have := HQ3.out; have := HQ4.out; have := HL.out; omega
        have HQI := Lib.hid (show (q : Int) + (c : Int) = ((q + c : Nat) : Int) from by omega)
        have HM := Lib.hid (show (w1.setCell ⟨B i, 2, none⟩ (.bool true)).rangeLeft ml r < wr.rangeLeft ml r from by rw [hnx.rg.left_eq, HA.out.rg.left_eq]; exact hlt)
        clear hl hv hrg1 hlt hg1 hs1 hi hu hgd hi' hnx hb hc HQ HA
        go_wp2_with fail
        refine (show Calls _ _ _ _ _ from HB.out).mono ?_
        rintro e w2 ⟨rfl, rfl⟩
        generalize w1.setCell ⟨B i, 2, none⟩ (.bool true) = w2 at *
        clear hen
        go_wp2_with fail
        go_roundw
        case rel => exact ⟨q + c, cnt1, _, _, by rw [HQI.out], hqc, HQ3, HN⟩
        case measure => exact HM.out

end Go.Proofs.Ytoegdfiehjabjaa
