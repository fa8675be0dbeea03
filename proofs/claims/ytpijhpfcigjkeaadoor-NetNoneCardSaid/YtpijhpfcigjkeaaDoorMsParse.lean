/-
  THE PROGRAM's MESSAGES (layer 19): parse. WRITTEN by wip/gen19q.py.
-/
import Derived.Test.YtpijhpfcigjkeaaDoorAllRd
import Derived.Test.YtpijhpfcigjkeaaDoorAllMsMy
import Derived.Test.YtpijhpfcigjkeaaDoorMsIn
namespace Go.Proofs.YtpijhpfcigjkeaaDoor
open Go Go.RowKit Go.Joins

def OneS (w : World) (b : Nat) (s : ByteArray) : Prop := w.heap[b]? = some (.cells #[.string s] 9 (0, 0))
theorem OneS.ne {w : World} {b : Nat} {s : ByteArray} (h : OneS w b s) {p : Addr} {v : Value} (hp : b ≠ p.block) : OneS (w.setCell p v) b s := (Below.heap_setCell w p v b hp).trans h
theorem OneS.set {w : World} {b : Nat} {s : ByteArray} (h : OneS w b s) (y : ByteArray) : OneS (w.setCell ⟨b, 0, none⟩ (.string y)) b y := (block_setCell h _).trans rfl
theorem OneS.cell {w : World} {b : Nat} {s : ByteArray} (h : OneS w b s) : w.cell? ⟨b, 0, none⟩ = some (.string s) := (cell_of_block h 0).trans rfl
theorem OneS.kp {w w' : World} {b : Nat} {s : ByteArray} {F : Nat → Prop} (h : OneS w b s) (hk : Keeps F w w') (hF : F b) : OneS w' b s := (hk.block b hF (Array.getElem?_eq_some_iff.1 h).1).trans h
theorem ones_step (w : World) (b : Nat) (hb : w.heap.size = b) : OneS (w.alloc (.cells #[.string ⟨#[]⟩] 9)) b ⟨#[]⟩ ∧ Kp w (w.alloc (.cells #[.string ⟨#[]⟩] 9)) ∧ (w.alloc (.cells #[.string ⟨#[]⟩] 9)).heap.size = b + 1 := by
  subst hb
  exact ⟨heap_alloc_new w _, (Keeps.refl _ w).alloc _, by simp⟩
theorem five_new (w4 : World) (h : Nat) (hs : w4.heap.size = h + 1) : (OneS (((((w4.alloc (.cells #[.string ⟨#[]⟩] 9)).alloc (.cells #[.string ⟨#[]⟩] 9)).alloc (.cells #[.string ⟨#[]⟩] 9)).alloc (.cells #[.string ⟨#[]⟩] 9)).alloc (.cells #[.string ⟨#[]⟩] 9)) (h + 1) ⟨#[]⟩ ∧ OneS (((((w4.alloc (.cells #[.string ⟨#[]⟩] 9)).alloc (.cells #[.string ⟨#[]⟩] 9)).alloc (.cells #[.string ⟨#[]⟩] 9)).alloc (.cells #[.string ⟨#[]⟩] 9)).alloc (.cells #[.string ⟨#[]⟩] 9)) (h + 2) ⟨#[]⟩ ∧ OneS (((((w4.alloc (.cells #[.string ⟨#[]⟩] 9)).alloc (.cells #[.string ⟨#[]⟩] 9)).alloc (.cells #[.string ⟨#[]⟩] 9)).alloc (.cells #[.string ⟨#[]⟩] 9)).alloc (.cells #[.string ⟨#[]⟩] 9)) (h + 3) ⟨#[]⟩ ∧ OneS (((((w4.alloc (.cells #[.string ⟨#[]⟩] 9)).alloc (.cells #[.string ⟨#[]⟩] 9)).alloc (.cells #[.string ⟨#[]⟩] 9)).alloc (.cells #[.string ⟨#[]⟩] 9)).alloc (.cells #[.string ⟨#[]⟩] 9)) (h + 4) ⟨#[]⟩ ∧ OneS (((((w4.alloc (.cells #[.string ⟨#[]⟩] 9)).alloc (.cells #[.string ⟨#[]⟩] 9)).alloc (.cells #[.string ⟨#[]⟩] 9)).alloc (.cells #[.string ⟨#[]⟩] 9)).alloc (.cells #[.string ⟨#[]⟩] 9)) (h + 5) ⟨#[]⟩) ∧ Kp w4 (((((w4.alloc (.cells #[.string ⟨#[]⟩] 9)).alloc (.cells #[.string ⟨#[]⟩] 9)).alloc (.cells #[.string ⟨#[]⟩] 9)).alloc (.cells #[.string ⟨#[]⟩] 9)).alloc (.cells #[.string ⟨#[]⟩] 9)) ∧ ((((((w4.alloc (.cells #[.string ⟨#[]⟩] 9)).alloc (.cells #[.string ⟨#[]⟩] 9)).alloc (.cells #[.string ⟨#[]⟩] 9)).alloc (.cells #[.string ⟨#[]⟩] 9)).alloc (.cells #[.string ⟨#[]⟩] 9))).heap.size = h + 6 := by
  obtain ⟨o1, k1, s1⟩ := ones_step w4 (h + 1) hs
  generalize w4.alloc (.cells #[.string ⟨#[]⟩] 9) = w5 at *
  obtain ⟨o2, k2, s2⟩ := ones_step w5 (h + 2) s1
  generalize w5.alloc (.cells #[.string ⟨#[]⟩] 9) = w6 at *
  obtain ⟨o3, k3, s3⟩ := ones_step w6 (h + 3) s2
  generalize w6.alloc (.cells #[.string ⟨#[]⟩] 9) = w7 at *
  obtain ⟨o4, k4, s4⟩ := ones_step w7 (h + 4) s3
  generalize w7.alloc (.cells #[.string ⟨#[]⟩] 9) = w8 at *
  obtain ⟨o5, k5, s5⟩ := ones_step w8 (h + 5) s4
  generalize w8.alloc (.cells #[.string ⟨#[]⟩] 9) = w9 at *
  have q4 := k5
  have q3 := k4.trans q4
  have q2 := k3.trans q3
  have q1 := k2.trans q2
  exact ⟨⟨o1.kp q1 trivial, o2.kp q2 trivial, o3.kp q3 trivial, o4.kp q4 trivial, o5⟩, k1.trans q1, s5⟩
def tplaces (h : Nat) : List Addr := [⟨h, 9, none⟩, ⟨h + 1, 0, none⟩, ⟨h + 2, 0, none⟩, ⟨h + 3, 0, none⟩, ⟨h + 4, 0, none⟩, ⟨h + 5, 0, none⟩]
theorem list_6 {ys : List (List UInt8)} (h : ys.length = 6) : ∃ t0 t1 t2 t3 t4 t5, ys = [t0, t1, t2, t3, t4, t5] := by
  match ys, h with
  | [t0, t1, t2, t3, t4, t5], _ => exact ⟨t0, t1, t2, t3, t4, t5, rfl⟩
/-- What parseTexts leaves in its places. -/
theorem texts_left (W : World) (h q : Nat) (m : Ms) (t0 t1 t2 t3 t4 t5 : List UInt8) (hm : MB W h m msA0) (o1 : OneS W (h + 1) ⟨#[]⟩) (o2 : OneS W (h + 2) ⟨#[]⟩) (o3 : OneS W (h + 3) ⟨#[]⟩) (o4 : OneS W (h + 4) ⟨#[]⟩) (o5 : OneS W (h + 5) ⟨#[]⟩) (w' : World) (hw : w' = (storesT W (tplaces h) [t0, t1, t2, t3, t4, t5]).drewN q) :
    MB w' h { m with key := txt t0 } msA0 ∧ OneS w' (h + 1) (txt t1) ∧ OneS w' (h + 2) (txt t2) ∧ OneS w' (h + 3) (txt t3) ∧ OneS w' (h + 4) (txt t4) ∧ OneS w' (h + 5) (txt t5) ∧ Keeps (fun b => b < h) W w' := by
  have e : storesT W (tplaces h) [t0, t1, t2, t3, t4, t5] = ((((((W.setCell ⟨h, 9, none⟩ (.string (txt t0))).setCell ⟨h + 1, 0, none⟩ (.string (txt t1))).setCell ⟨h + 2, 0, none⟩ (.string (txt t2))).setCell ⟨h + 3, 0, none⟩ (.string (txt t3))).setCell ⟨h + 4, 0, none⟩ (.string (txt t4))).setCell ⟨h + 5, 0, none⟩ (.string (txt t5))) := by
    simp only [tplaces, storesT]
  have hk := storesT_keeps (fun b => b < h) (tplaces h) [t0, t1, t2, t3, t4, t5] W W (fun p hp => by
    simp only [tplaces, List.mem_cons, List.not_mem_nil, or_false] at hp
    rcases hp with rfl | rfl | rfl | rfl | rfl | rfl
    · show ¬ (h < h); omega
    · show ¬ (h + 1 < h); omega
    · show ¬ (h + 2 < h); omega
    · show ¬ (h + 3 < h); omega
    · show ¬ (h + 4 < h); omega
    · show ¬ (h + 5 < h); omega) (Keeps.refl _ _)
  rw [e] at hw hk
  have n : ∀ i j : Nat, i ≠ j → h + i ≠ h + j := fun i j hij => by omega
  have n0 : ∀ i : Nat, 0 < i → h ≠ h + i := fun i hi => by omega
  have n1 : ∀ i : Nat, 0 < i → h + i ≠ h := fun i hi => by omega
  have k0 := MB.ne (v := .string (txt t5)) (p := ⟨h + 5, 0, none⟩) (MB.ne (v := .string (txt t4)) (p := ⟨h + 4, 0, none⟩) (MB.ne (v := .string (txt t3)) (p := ⟨h + 3, 0, none⟩) (MB.ne (v := .string (txt t2)) (p := ⟨h + 2, 0, none⟩) (MB.ne (v := .string (txt t1)) (p := ⟨h + 1, 0, none⟩) (MB.setKey hm (txt t0)) (n0 1 (by decide))) (n0 2 (by decide))) (n0 3 (by decide))) (n0 4 (by decide))) (n0 5 (by decide))
  have s0 : ∀ i, 0 < i → ∀ s, OneS W (h + i) s → OneS (W.setCell ⟨h, 9, none⟩ (.string (txt t0))) (h + i) s := fun i hi s o => o.ne (n1 i hi)
  have sne : ∀ (X : World) (i j : Nat) (s t : ByteArray), i ≠ j → OneS X (h + i) s → OneS (X.setCell ⟨h + j, 0, none⟩ (.string t)) (h + i) s := fun X i j s t hij o => o.ne (n i j hij)
  have k1 := sne _ 1 5 _ (txt t5) (by decide) (sne _ 1 4 _ (txt t4) (by decide) (sne _ 1 3 _ (txt t3) (by decide) (sne _ 1 2 _ (txt t2) (by decide) (OneS.set (s0 1 (by decide) _ o1) (txt t1)))))
  have k2 := sne _ 2 5 _ (txt t5) (by decide) (sne _ 2 4 _ (txt t4) (by decide) (sne _ 2 3 _ (txt t3) (by decide) (OneS.set (sne _ 2 1 _ (txt t1) (by decide) (s0 2 (by decide) _ o2)) (txt t2))))
  have k3 := sne _ 3 5 _ (txt t5) (by decide) (sne _ 3 4 _ (txt t4) (by decide) (OneS.set (sne _ 3 2 _ (txt t2) (by decide) (sne _ 3 1 _ (txt t1) (by decide) (s0 3 (by decide) _ o3))) (txt t3)))
  have k4 := sne _ 4 5 _ (txt t5) (by decide) (OneS.set (sne _ 4 3 _ (txt t3) (by decide) (sne _ 4 2 _ (txt t2) (by decide) (sne _ 4 1 _ (txt t1) (by decide) (s0 4 (by decide) _ o4)))) (txt t4))
  have k5 := OneS.set (sne _ 5 4 _ (txt t4) (by decide) (sne _ 5 3 _ (txt t3) (by decide) (sne _ 5 2 _ (txt t2) (by decide) (sne _ 5 1 _ (txt t1) (by decide) (s0 5 (by decide) _ o5))))) (txt t5)
  generalize ((((((W.setCell ⟨h, 9, none⟩ (.string (txt t0))).setCell ⟨h + 1, 0, none⟩ (.string (txt t1))).setCell ⟨h + 2, 0, none⟩ (.string (txt t2))).setCell ⟨h + 3, 0, none⟩ (.string (txt t3))).setCell ⟨h + 4, 0, none⟩ (.string (txt t4))).setCell ⟨h + 5, 0, none⟩ (.string (txt t5))) = X at hw hk k0 k1 k2 k3 k4 k5
  subst hw
  exact ⟨k0, k1, k2, k3, k4, k5, hk.drewN q⟩

theorem texts_short {m : Ms} (h : mayM m = true) : shortT (textsM m) := fun t ht => by have := texts_len h t ht; omega
theorem body_split {m : Ms} {l r : List UInt8} {hz : List Int} (h : mayM m = true) (hz12 : hz.length = 12) (hin : allIn hz) (hl : l = putsZ hz ++ r) (e : bodyM m = l) : putsT (textsM m) = r := by
  unfold bodyM at e
  exact (putsZ_inj (show (headZ m).length = hz.length from hz12.symm) (headZ_in (mayM_parts h).1) hin (e.trans hl)).2
theorem body_texts {m : Ms} {r : List UInt8} {ts : List (List UInt8)} (h : mayM m = true) (h6 : ts.length = 6) (hs : shortT ts) (hr : putsT ts = r) (e : putsT (textsM m) = r) : textsM m = ts :=
  (putsT_inj (r := []) (s := []) (show (textsM m).length = ts.length from h6.symm) (texts_short h) hs (by rw [e, hr])).1
theorem body_head {m : Ms} {l r : List UInt8} {hz : List Int} (h : mayM m = true) (hz12 : hz.length = 12) (hin : allIn hz) (hl : l = putsZ hz ++ r) (e : bodyM m = l) : headZ m = hz := by
  unfold bodyM at e
  exact (putsZ_inj (show (headZ m).length = hz.length from hz12.symm) (headZ_in (mayM_parts h).1) hin (e.trans hl)).1
/-- Two that were read alike are one. -/
theorem ms_same {m n : Ms} (hz : headZ m = headZ n) (ht : textsM m = textsM n) (mi : m.item = it0 ∨ m.item.may = true) (ni : n.item = it0 ∨ n.item.may = true) (ma : m.items.all It.may = true) (na : n.items.all It.may = true) (mk : allOk m.marks) (nk : allOk n.marks) (mm : allIn m.mem) (nm : allIn n.mem) (mo : allIn m.old) (no : allIn n.old) : m = n := by
  simp only [textsM, List.cons.injEq, and_true] at ht
  obtain ⟨t1, t2, t3, t4, t5, t6⟩ := ht
  have e1 := data_inj t1
  have e2 := itemL_inj mi ni t2
  have e3 := bytesOf_inj ma na t3
  have e4 := marksOf_inj mk nk t4
  have e5 := nodesOf_inj mm nm t5
  have e6 := nodesOf_inj mo no t6
  simp only [headZ, List.cons.injEq, and_true] at hz
  obtain ⟨z1, z2, z3, z4, z5, z6, z7, z8, z9, z10, z11, z12⟩ := hz
  have e7 : m.last = n.last := by unfold lastZ at z11; cases h1 : m.last <;> cases h2 : n.last <;> simp [h1, h2] at z11 <;> rfl
  obtain ⟨⟩ := m
  obtain ⟨⟩ := n
  simp only at *
  simp [*]
theorem may_lists {m : Ms} (h : mayM m = true) : (m.item = it0 ∨ m.item.may = true) ∧ m.items.all It.may = true ∧ allOk m.marks ∧ allIn m.mem ∧ allIn m.old := by
  have b := listB_is (mayM_parts h).2.1
  exact ⟨b.1, (mayM_parts h).2.2.1, mark_ok (mayM_parts h).2.2.2, fun z hz => by have := (nodes_is b.2.2.2.1).2 z hz; omega, fun z hz => by have := (nodes_is b.2.2.2.2).2 z hz; omega⟩
theorem own_says {w : World} {base n c size : Nat} {e : TypeId} {A : Option Addr} {xs : List Value} (h : w.ownsRow base e size (.slice A n c) n xs) : n ≤ c ∧ c ≤ maxLen ∧ (A = none → c = 0) := by
  rcases h.2 with ⟨h', h0⟩ | ⟨g', cap', cur, h', _, _, h1, h2, _⟩
  · injection h' with e1 e2 e3
    subst e1 e3
    exact ⟨by omega, Nat.zero_le _, fun _ => rfl⟩
  · injection h' with e1 e2 e3
    subst e1 e3
    exact ⟨h1, h2, fun h => by cases h⟩
theorem results_cell2 {P : Program} {fn : Func} {t r : Tmp} {ty : TypeId} {v u : Value} {tmps : Array Value} {w : World} {g : Nat} (h : fn.results = #[.cell t ty, .tmp r]) (hp : tmps.getD t undef = .pointer (some ⟨g, 0, none⟩)) (hr : tmps.getD r undef = u) (hl : (loadVar ty ⟨g, 0, none⟩).run P w = .ok v w) : (results fn tmps).run P w = .ok (.tuple #[v, u]) w := by
  have hp2 : tmps[t]?.getD undef = .pointer (some ⟨g, 0, none⟩) := by simpa [Array.getD_eq_getD_getElem?] using hp
  have hr2 : tmps[r]?.getD undef = u := by simpa [Array.getD_eq_getD_getElem?] using hr
  simp [results, h, hp2, hr2, asAddr, hl]
theorem own_new {w : World} {base n size c : Nat} {e : TypeId} {A : Option Addr} {xs : List Value} (h : w.ownsRow base e size (.slice A n c) n xs) : ∀ b o, A = some ⟨b, o, none⟩ → base ≤ b ∧ b < w.heap.size := fun b o ha => by
  refine h.lt b ?_
  rw [ha]; rfl
/-- What parse answers. -/
def ParsePost (w : World) (l : List UInt8) (e : Ending) (w' : World) : Prop := Kp w w' ∧
  ((∃ m a, bodyM m = l ∧ m.Wide ∧ (∀ m', mayM m' = true → bodyM m' = l → m' = m) ∧ (∀ W', Keeps (fun b => w.heap.size ≤ b) w' W' → MsIn W' m a (fun b => w.heap.size ≤ b) ∧ MsFree W' m a) ∧ e = .returned (.tuple #[msV m a, .bool true])) ∨ ((∀ m, mayM m = true → bodyM m ≠ l) ∧ e = .returned (.tuple #[msV ms0 msA0, .bool false])))
set_option maxRecDepth 100000 in
set_option maxHeartbeats 4000000 in
theorem mparse (w : World) (A : Option Addr) (c : Nat) (l : List UInt8) (hr : Row w A (fun _ => True) (bcells l)) (hlc : l.length ≤ c) (hc : c ≤ maxLen) (hl : l.length ≤ 1000000) :
    Calls Tryd.prog 39 #[.slice A l.length c] w (ParsePost w l) := by
  have HR := Lib.hid hr.lt
  obtain ⟨n, hn⟩ : ∃ n, l.length = n := ⟨_, rfl⟩
  have HN := Lib.hid hn
  have HPH := Lib.hid (fun (W : World) (hk : Kp w W) => parse_head W A c l (hr.keep hk) hlc hl)
  rw [hn] at hlc hl HPH ⊢
  unfold maxLen at hc
  obtain ⟨vZ, hvZ⟩ : ∃ v, msV ms0 msA0 = v := ⟨_, rfl⟩
  have HVZ := Lib.hid hvZ
  clear hr hn hvZ
  go_enter Tryd.func39, Tryd.ntmps39
  go_upto_region 1 with (refine list_allocM rfl rfl ?_; intro w1 hb1 hk1 hs1)
  obtain ⟨g, hg⟩ : ∃ g, w.heap.size = g := ⟨_, rfl⟩
  rw [hg] at hb1 hs1 ⊢
  have HB1 := Lib.hid hb1
  have HK1 := Lib.hid hk1
  have HG := Lib.hid hg
  clear hb1 hk1 hg
  go_wp2_with fail
  refine (HPH.out _ HK1.out).mono ?_
  rintro e w2 ⟨hk2, (⟨mH, r, hbare, hin, hl2, rfl⟩ | ⟨hno, rfl⟩)⟩
  · obtain ⟨k, hk⟩ : ∃ k, (putsZ (headZ mH)).length = k := ⟨_, rfl⟩
    rw [hk]
    obtain ⟨vH, hvH⟩ : ∃ v, msV mH msA0 = v := ⟨_, rfl⟩
    have HVH := Lib.hid hvH
    rw [hvH]
    have hgs2 : g < w2.heap.size := by have := hk2.size; omega
    have HBARE := Lib.hid hbare
    have HIN := Lib.hid hin
    have HL2 := Lib.hid hl2
    have HK2 := Lib.hid (HK1.out.trans hk2)
    have HB2 := Lib.hid (HB1.out.kp hk2)
    have hrl : r.length = n - k ∧ k ≤ n := by
      have := congrArg List.length hl2
      rw [List.length_append, hk, HN.out] at this
      omega
    have HRL := Lib.hid hrl.1
    have hkn := hrl.2
    have HDR := Lib.hid (show l.drop k = r from by rw [hl2, ← hk, List.drop_left])
    clear hbare hin hl2 hvH hk hrl hk2 HB1 HK1 HPH hs1
    go_upto_region 2 with (first
      | (refine list_allocM rfl rfl ?_; intro w3 hb3 hk3 hs3)
      | (refine list_storeM rfl (.tmp 4) (.tmp 15) rfl _ ms0 mH msA0 msA0 hb3 rfl HVH.out.symm ?_; intro w4 hb4 hk4 hs4))
    obtain ⟨h, hh⟩ : ∃ h, w2.heap.size = h := ⟨_, rfl⟩
    rw [hh] at hb3 hb4 hk4 hs3 hgs2 ⊢
    have hs4' : w4.heap.size = h + 1 := by omega
    have HH := Lib.hid hh
    have HK4 := Lib.hid (kp_behind (HK2.out.trans hk3) hk4 (by have := HK2.out.size; omega))
    have HB4 := Lib.hid ((HB2.out.kp hk3).keep hk4 (by omega))
    have HM4 := Lib.hid hb4
    have HWH := Lib.hid (show w.heap.size ≤ h from by have := HK2.out.size; omega)
    clear hb3 hk3 hs3 hb4 hk4 hs4 hh HK2 HB2
    go_upto_region 5 with fail
    simp only [Nat.add_assoc, Nat.reduceAdd]
    have hnew := five_new w4 h hs4'
    obtain ⟨w5, hw5⟩ : ∃ w5, (((((w4.alloc (.cells #[.string ⟨#[]⟩] 9)).alloc (.cells #[.string ⟨#[]⟩] 9)).alloc (.cells #[.string ⟨#[]⟩] 9)).alloc (.cells #[.string ⟨#[]⟩] 9)).alloc (.cells #[.string ⟨#[]⟩] 9)) = w5 := ⟨_, rfl⟩
    rw [hw5] at hnew ⊢
    obtain ⟨⟨o1, o2, o3, o4, o5⟩, hk5, hs5⟩ := hnew
    obtain ⟨w6, hw6⟩ : ∃ w6, w5.alloc (.cells #[.pointer (some ⟨h, 9, none⟩), .pointer (some ⟨h + 1, 0, none⟩), .pointer (some ⟨h + 2, 0, none⟩), .pointer (some ⟨h + 3, 0, none⟩), .pointer (some ⟨h + 4, 0, none⟩), .pointer (some ⟨h + 5, 0, none⟩)] 90) = w6 := ⟨_, rfl⟩
    have hk6 : Kp w5 w6 := by rw [← hw6]; exact (Keeps.refl _ w5).alloc _
    have HK6 := Lib.hid ((HK4.out.trans hk5).trans hk6)
    have HB6 := Lib.hid ((HB4.out.kp hk5).kp hk6)
    have HM6 := Lib.hid ((HM4.out.kp hk5).kp hk6)
    have HO := Lib.hid (show OneS w6 (h + 1) ⟨#[]⟩ ∧ OneS w6 (h + 2) ⟨#[]⟩ ∧ OneS w6 (h + 3) ⟨#[]⟩ ∧ OneS w6 (h + 4) ⟨#[]⟩ ∧ OneS w6 (h + 5) ⟨#[]⟩ from ⟨o1.kp hk6 trivial, o2.kp hk6 trivial, o3.kp hk6 trivial, o4.kp hk6 trivial, o5.kp hk6 trivial⟩)
    have hplr : Row w6 (some ⟨h + 6, 0, none⟩) (fun b => b < h ∨ h + 5 < b) ((tplaces h).map fun p => Value.pointer (some p)) := by
      rw [← hw6]
      exact Row.fresh w5 _ 90 (0, 0) _ hs5.symm (by omega) _ rfl
    have hpl : ∀ p ∈ tplaces h, Place w6 p ∧ ¬ (p.block < h ∨ h + 5 < p.block) := fun p hp => by
      have ob : ∀ i, 1 ≤ i → i ≤ 5 → OneS w6 (h + i) ⟨#[]⟩ → Place w6 ⟨h + i, 0, none⟩ ∧ ¬ (h + i < h ∨ h + 5 < h + i) := fun i h1 h2 o => ⟨⟨⟨_, o.cell⟩, unfrozen_of_block o 0⟩, by omega⟩
      simp only [tplaces, List.mem_cons, List.not_mem_nil, or_false] at hp
      rcases hp with rfl | rfl | rfl | rfl | rfl | rfl
      · exact ⟨⟨⟨_, HM6.out.cell 9 (.string mH.key) rfl⟩, HM6.out.fz 9⟩, by show ¬ (h < h ∨ h + 5 < h); omega⟩
      · exact ob 1 (by decide) (by decide) HO.out.1
      · exact ob 2 (by decide) (by decide) HO.out.2.1
      · exact ob 3 (by decide) (by decide) HO.out.2.2.1
      · exact ob 4 (by decide) (by decide) HO.out.2.2.2.1
      · exact ob 5 (by decide) (by decide) HO.out.2.2.2.2
    have HT := Lib.hid (fun (A2 : Option Addr) (c2 : Nat) (hr2 : Row w6 A2 (fun b => b < h ∨ h + 5 < b) (bcells r)) (h2 : r.length ≤ c2) (h3 : c2 ≤ maxLen) => parse_texts w6 A2 (some ⟨h + 6, 0, none⟩) c2 6 r (tplaces h) _ hr2 hplr hpl (by rw [HRL.out]; omega) h2 h3 (by show 6 ≤ 100; decide))
    rw [HRL.out] at HT
    have HROW := Lib.hid (show Row w6 A (fun b => b < h ∨ h + 5 < b) (bcells l) from (HR.out.keep (HK6.out.mono fun _ _ _ => trivial)).mono fun b _ hb => .inl (by have := hb.2; have := HWH.out; omega))
    have HW6 := Lib.hid hw6
    clear o1 o2 o3 o4 o5 hk5 hk6 hw5 hw6 hplr hpl HB4 HM4 HK4 hs4' HR
    by_cases hck : c = k
    · have hr0 : r = [] := List.eq_nil_of_length_eq_zero (by have := HRL.out; omega)
      have HC := Lib.hid (fun A2 => HT.out A2 (c - k) (by rw [hr0]; exact Row.nil _ _ _) (by omega) (by unfold maxLen; omega))
      subst hck
      have hnc : n = c := by omega
      have HNC := Lib.hid hnc
      rw [hnc, Nat.sub_self] at HC
      clear HT HROW hr0 hnc
      go_wp2_with fail
      rw [HW6.out]
      refine (show Calls _ _ _ _ _ from HC.out _).mono ?_
      clear HW6 HC
      rintro e w7 (⟨ts, q, rfl, htl, hsh, hts, hw7⟩ | ⟨rfl, hno, hk7⟩)
      · obtain ⟨t0, t1, t2, t3, t4, t5, rfl⟩ := list_6 htl
        have hleft := texts_left w6 h q mH t0 t1 t2 t3 t4 t5 HM6.out HO.out.1 HO.out.2.1 HO.out.2.2.1 HO.out.2.2.2.1 HO.out.2.2.2.2 w7 hw7
        obtain ⟨hmb, o1, o2, o3, o4, o5, hk7⟩ := hleft
        have hT : ∀ (i : Nat) (t : List UInt8), [t0, t1, t2, t3, t4, t5][i]? = some t → t.length ≤ 65536 := fun i t hi => hsh t (List.mem_of_getElem? hi)
        have HT6 := Lib.hid (fun m (hm : mayM m = true) (e : bodyM m = l) => body_texts hm rfl hsh hts (body_split hm rfl HIN.out HL2.out e))
        have HTS := Lib.hid hts
        have HHD := Lib.hid (fun m (hm : mayM m = true) (e : bodyM m = l) => body_head hm rfl HIN.out HL2.out e)
        have HK7 := Lib.hid (show Kp w w7 from ⟨hk7.os.trans HK6.out.os, hk7.tape.trans HK6.out.tape, hk7.output.trans HK6.out.output, Nat.le_trans HK6.out.size hk7.size, fun b _ hb => (hk7.block b (by have := HWH.out; omega) (Nat.lt_of_lt_of_le hb HK6.out.size)).trans (HK6.out.block b trivial hb)⟩)
        have HB7 := Lib.hid (HB6.out.keep hk7 hgs2)
        obtain ⟨m1, e1⟩ : ∃ m1 : Ms, m1 = { mH with key := txt t0 } := ⟨_, rfl⟩
        rw [← e1] at hmb
        have HE1 := Lib.hid (show headZ m1 = headZ mH ∧ m1.key = txt t0 ∧ m1.item = it0 ∧ m1.items = [] ∧ m1.marks = [] ∧ m1.mem = [] ∧ m1.old = [] from by
          obtain ⟨b1, b2, b3, b4, b5, b6⟩ := HBARE.out
          rw [e1]; exact ⟨rfl, rfl, b2, b3, b4, b5, b6⟩)
        have HM7 := Lib.hid hmb
        have T0 := Lib.hid (hT 0 t0 rfl)
        have T1 := Lib.hid (hT 1 t1 rfl)
        have T2 := Lib.hid (hT 2 t2 rfl)
        have T3 := Lib.hid (hT 3 t3 rfl)
        have T4 := Lib.hid (hT 4 t4 rfl)
        have T5 := Lib.hid (hT 5 t5 rfl)
        have O1 := Lib.hid o1
        have O2 := Lib.hid o2
        have O3 := Lib.hid o3
        have O4 := Lib.hid o4
        have O5 := Lib.hid o5
        have c1 := o1.cell
        have hhs : h < w7.heap.size := HM7.out.lt
        clear hmb o1 o2 o3 o4 o5 hk7 hT hsh hts hw7 htl e1 HM6 HO HB6 HK6 HBARE HIN HDR
        go_wp2_with fail
        refine (parse_item w7 t1 (Nat.le_trans T1.out (by decide)) h m1 msA0 HM7.out HE1.out.2.2.1).mono ?_
        rintro e w8 ⟨hk8, (⟨y, rfl, hy, hy2, hmb⟩ | ⟨rfl, hno⟩)⟩
        · have HK8 := Lib.hid (kp_behind HK7.out hk8 HWH.out)
          have HB8 := Lib.hid (HB7.out.keep hk8 (by omega))
          have O28 := Lib.hid (O2.out.kp hk8 (by omega))
          have O38 := Lib.hid (O3.out.kp hk8 (by omega))
          have O48 := Lib.hid (O4.out.kp hk8 (by omega))
          have O58 := Lib.hid (O5.out.kp hk8 (by omega))
          obtain ⟨m2, e2⟩ : ∃ m2 : Ms, m2 = { m1 with item := y } := ⟨_, rfl⟩
          rw [← e2] at hmb
          have HE2 := Lib.hid (show headZ m2 = headZ mH ∧ m2.key = txt t0 ∧ m2.item = y ∧ m2.items = [] ∧ m2.marks = [] ∧ m2.mem = [] ∧ m2.old = [] from by
            obtain ⟨b0, b1, b2, b3, b4, b5, b6⟩ := HE1.out
            rw [e2]; exact ⟨b0, b1, rfl, b3, b4, b5, b6⟩)
          have HM8 := Lib.hid hmb
          have HY := Lib.hid hy
          have HY2 := Lib.hid hy2
          have c2 := O28.out.cell
          have hhs8 : h < w8.heap.size := HM8.out.lt
          clear hmb hk8 hy hy2 e2 HE1 HM7 HB7 O1 O2 O3 O4 O5 HK7 c1
          go_wp2_with fail
          refine (parse_items w8 t2 (Nat.le_trans T2.out (by decide)) h 16 (msC m2 msA0) 36 HM8.out (by show some (Value.slice none m2.items.length 0) = _; rw [HE2.out.2.2.2.1]; rfl)).mono ?_
          rintro e w9 ⟨hk9, (⟨A3, c3, li, rfl, hli, hall, hmb, hput⟩ | ⟨rfl, hno⟩)⟩
          · have HK9 := Lib.hid (kp_behind HK8.out hk9 HWH.out)
            have HB9 := Lib.hid (HB8.out.keep hk9 (by omega))
            have O39 := Lib.hid (O38.out.kp hk9 (by omega))
            have O49 := Lib.hid (O48.out.kp hk9 (by omega))
            have O59 := Lib.hid (O58.out.kp hk9 (by omega))
            replace hmb : MB w9 h { m2 with items := li } { msA0 with ia := A3, ic := c3 } := hmb
            obtain ⟨m3, e3⟩ : ∃ m3 : Ms, m3 = { m2 with items := li } := ⟨_, rfl⟩
            obtain ⟨a3, f3⟩ : ∃ a3 : MsA, a3 = { msA0 with ia := A3, ic := c3 } := ⟨_, rfl⟩
            rw [← e3, ← f3] at hmb
            have HE3 := Lib.hid (show headZ m3 = headZ mH ∧ m3.key = txt t0 ∧ m3.item = y ∧ m3.items = li ∧ m3.marks = [] ∧ m3.mem = [] ∧ m3.old = [] from by
              obtain ⟨b0, b1, b2, b3, b4, b5, b6⟩ := HE2.out
              rw [e3]; exact ⟨b0, b1, b2, rfl, b4, b5, b6⟩)
            have HF3 := Lib.hid (show a3.ia = A3 ∧ a3.ic = c3 ∧ a3.ma = none ∧ a3.mc = 0 ∧ a3.ba = none ∧ a3.bc = 0 ∧ a3.oa = none ∧ a3.oc = 0 from by rw [f3]; exact ⟨rfl, rfl, rfl, rfl, rfl, rfl, rfl, rfl⟩)
            have HM9 := Lib.hid hmb
            have HLI := Lib.hid hli
            have HALL := Lib.hid hall
            have HPT := Lib.hid (show li.length ≤ c3 ∧ c3 ≤ maxLen from ⟨hput.1, hput.2.1⟩)
            have HU9 := Lib.hid (show ∀ W', Keeps (fun b => h < b) w9 W' → Unfr W' A3 li.length from fun W' hk => hput.2.2.2.keep hk fun b o h0 e => by
              obtain ⟨b', o', e', hG, -⟩ := hput.2.2.1 0 h0
              rw [e] at e'; cases e'
              exact ⟨by omega, hG.2⟩)
            have HIT9 := Lib.hid (show ItsAt w9 A3 (fun b => h < b) li from hput.2.2.1.mono fun b _ hb => by have := hb.1; omega)
            have c3c := O39.out.cell
            have hhs9 : h < w9.heap.size := HM9.out.lt
            clear hmb hk9 hli hall hput e3 f3 HE2 HM8 HB8 O28 O38 O48 O58 HK8 c2
            go_wp2_with fail
            refine (parse_marks w9 t3 (Nat.le_trans T3.out (by decide)) h 17 (msC m3 a3) HM9.out (by show some (Value.slice a3.ma m3.marks.length a3.mc) = _; rw [HE3.out.2.2.2.2.1, HF3.out.2.2.1, HF3.out.2.2.2.1]; rfl)).mono ?_
            rintro e w10 ⟨hk10, (⟨A4, c4, lk, rfl, hlk, hok, hmb, hput⟩ | ⟨rfl, hno⟩)⟩
            · have HK10 := Lib.hid (kp_behind HK9.out hk10 HWH.out)
              have HB10 := Lib.hid (HB9.out.keep hk10 (by omega))
              have O410 := Lib.hid (O49.out.kp hk10 (by omega))
              have O510 := Lib.hid (O59.out.kp hk10 (by omega))
              replace hmb : MB w10 h { m3 with marks := lk } { a3 with ma := A4, mc := c4 } := hmb
              obtain ⟨m4, e4⟩ : ∃ m4 : Ms, m4 = { m3 with marks := lk } := ⟨_, rfl⟩
              obtain ⟨a4, f4⟩ : ∃ a4 : MsA, a4 = { a3 with ma := A4, mc := c4 } := ⟨_, rfl⟩
              rw [← e4, ← f4] at hmb
              have HE4 := Lib.hid (show headZ m4 = headZ mH ∧ m4.key = txt t0 ∧ m4.item = y ∧ m4.items = li ∧ m4.marks = lk ∧ m4.mem = [] ∧ m4.old = [] from by
                obtain ⟨b0, b1, b2, b3, b4, b5, b6⟩ := HE3.out
                rw [e4]; exact ⟨b0, b1, b2, b3, rfl, b5, b6⟩)
              have HF4 := Lib.hid (show a4.ia = A3 ∧ a4.ic = c3 ∧ a4.ma = A4 ∧ a4.mc = c4 ∧ a4.ba = none ∧ a4.bc = 0 ∧ a4.oa = none ∧ a4.oc = 0 from by
                obtain ⟨b1, b2, b3, b4, b5, b6, b7, b8⟩ := HF3.out
                rw [f4]; exact ⟨b1, b2, rfl, rfl, b5, b6, b7, b8⟩)
              have HM10 := Lib.hid hmb
              have HLK := Lib.hid hlk
              have HOK := Lib.hid hok
              have HPK := Lib.hid (own_says hput)
              have HU10 := Lib.hid (show ∀ W', Keeps (fun b => h < b) w10 W' → Unfr W' A3 li.length ∧ Unfr W' A4 lk.length from fun W' hk => ⟨HU9.out W' ((hk10.mono fun b _ (hb : h < b) => by omega).trans hk), (Unfr.own hput).keep hk fun b o h0 e => by
                have := own_new hput b o e
                exact ⟨by omega, this.2⟩⟩)
              have HIT10 := Lib.hid (HIT9.out.keep (hk10.mono fun b _ (hb : h < b) => by omega))
              have HMK10 := Lib.hid (show MksAt w10 A4 (fun b => h < b) lk from (MksAt.of_own hput rfl).mono fun b _ hb => by have := hb.1; omega)
              have c4c := O410.out.cell
              have hhs10 : h < w10.heap.size := HM10.out.lt
              clear hmb hk10 hlk hok hput e4 f4 HE3 HF3 HM9 HB9 O39 O49 O59 HK9 c3c HIT9 HU9
              go_wp2_with fail
              refine (parse_nodes w10 t4 (Nat.le_trans T4.out (by decide)) h 18 (msC m4 a4) HM10.out (by show some (Value.slice a4.ba m4.mem.length a4.bc) = _; rw [HE4.out.2.2.2.2.2.1, HF4.out.2.2.2.2.1, HF4.out.2.2.2.2.2.1]; rfl)).mono ?_
              rintro e w11 ⟨hk11, (⟨A5, c5, ln, rfl, hln, hin5, hmb, hput⟩ | ⟨rfl, hno⟩)⟩
              · have HK11 := Lib.hid (kp_behind HK10.out hk11 HWH.out)
                have HB11 := Lib.hid (HB10.out.keep hk11 (by omega))
                have O511 := Lib.hid (O510.out.kp hk11 (by omega))
                replace hmb : MB w11 h { m4 with mem := ln } { a4 with ba := A5, bc := c5 } := hmb
                obtain ⟨m5, e5⟩ : ∃ m5 : Ms, m5 = { m4 with mem := ln } := ⟨_, rfl⟩
                obtain ⟨a5, f5⟩ : ∃ a5 : MsA, a5 = { a4 with ba := A5, bc := c5 } := ⟨_, rfl⟩
                rw [← e5, ← f5] at hmb
                have HE5 := Lib.hid (show headZ m5 = headZ mH ∧ m5.key = txt t0 ∧ m5.item = y ∧ m5.items = li ∧ m5.marks = lk ∧ m5.mem = ln ∧ m5.old = [] from by
                  obtain ⟨b0, b1, b2, b3, b4, b5, b6⟩ := HE4.out
                  rw [e5]; exact ⟨b0, b1, b2, b3, b4, rfl, b6⟩)
                have HF5 := Lib.hid (show a5.ia = A3 ∧ a5.ic = c3 ∧ a5.ma = A4 ∧ a5.mc = c4 ∧ a5.ba = A5 ∧ a5.bc = c5 ∧ a5.oa = none ∧ a5.oc = 0 from by
                  obtain ⟨b1, b2, b3, b4, b5, b6, b7, b8⟩ := HF4.out
                  rw [f5]; exact ⟨b1, b2, b3, b4, rfl, rfl, b7, b8⟩)
                have HM11 := Lib.hid hmb
                have HLN := Lib.hid hln
                have HPN := Lib.hid (own_says hput)
                have HI5 := Lib.hid hin5
                have HU11 := Lib.hid (show ∀ W', Keeps (fun b => h < b) w11 W' → Unfr W' A3 li.length ∧ Unfr W' A4 lk.length ∧ Unfr W' A5 ln.length from fun W' hk => ⟨(HU10.out W' ((hk11.mono fun b _ (hb : h < b) => by omega).trans hk)).1, (HU10.out W' ((hk11.mono fun b _ (hb : h < b) => by omega).trans hk)).2, (Unfr.own hput).keep hk fun b o h0 e => by
                  have := own_new hput b o e
                  exact ⟨by omega, this.2⟩⟩)
                have HIT11 := Lib.hid (HIT10.out.keep (hk11.mono fun b _ (hb : h < b) => by omega))
                have HMK11 := Lib.hid (HMK10.out.keep (hk11.mono fun b _ (hb : h < b) => by omega))
                have HRN11 := Lib.hid (show Row w11 A5 (fun b => h < b) (ln.map (Value.int .i64)) from (Row.of_own (xs := ln.map (Value.int .i64)) (c := c5) (e := 3) (by rw [List.length_map]; exact hput)).mono fun b _ hb => by have := hb.1; omega)
                have c5c := O511.out.cell
                have hhs11 : h < w11.heap.size := HM11.out.lt
                clear hmb hk11 hln hin5 hput e5 f5 HE4 HF4 HM10 HB10 O410 O510 HK10 c4c HIT10 HMK10 HU10
                go_wp2_with fail
                refine (parse_nodes w11 t5 (Nat.le_trans T5.out (by decide)) h 20 (msC m5 a5) HM11.out (by show some (Value.slice a5.oa m5.old.length a5.oc) = _; rw [HE5.out.2.2.2.2.2.2, HF5.out.2.2.2.2.2.2.1, HF5.out.2.2.2.2.2.2.2]; rfl)).mono ?_
                rintro e w12 ⟨hk12, (⟨A6, c6, lo, rfl, hlo, hin6, hmb, hput⟩ | ⟨rfl, hno⟩)⟩
                · have HK12 := Lib.hid (kp_behind HK11.out hk12 HWH.out)
                  have HB12 := Lib.hid (HB11.out.keep hk12 (by omega))
                  replace hmb : MB w12 h { m5 with old := lo } { a5 with oa := A6, oc := c6 } := hmb
                  obtain ⟨m6, e6⟩ : ∃ m6 : Ms, m6 = { m5 with old := lo } := ⟨_, rfl⟩
                  obtain ⟨a6, f6⟩ : ∃ a6 : MsA, a6 = { a5 with oa := A6, oc := c6 } := ⟨_, rfl⟩
                  rw [← e6, ← f6] at hmb
                  obtain ⟨b0, b1, b2, b3, b4, b5, b6⟩ := (show headZ m6 = headZ mH ∧ m6.key = txt t0 ∧ m6.item = y ∧ m6.items = li ∧ m6.marks = lk ∧ m6.mem = ln ∧ m6.old = lo from by
                    obtain ⟨b0, b1, b2, b3, b4, b5, b6⟩ := HE5.out
                    rw [e6]; exact ⟨b0, b1, b2, b3, b4, b5, rfl⟩)
                  obtain ⟨g1, g2, g3, g4, g5, g6, g7, g8⟩ := (show a6.ia = A3 ∧ a6.ic = c3 ∧ a6.ma = A4 ∧ a6.mc = c4 ∧ a6.ba = A5 ∧ a6.bc = c5 ∧ a6.oa = A6 ∧ a6.oc = c6 from by
                    obtain ⟨b1, b2, b3, b4, b5, b6, b7, b8⟩ := HF5.out
                    rw [f6]; exact ⟨b1, b2, b3, b4, b5, b6, rfl, rfl⟩)
                  have hkt : textsM m6 = [t0, t1, t2, t3, t4, t5] := by
                    unfold textsM
                    rw [b1, b2, b3, b4, b5, b6, HY.out, HLI.out, HLK.out, HLN.out, hlo]
                    rfl
                  have HUNI := Lib.hid (show ∀ m, mayM m = true → bodyM m = l → m = m6 from fun m hm e => by
                    obtain ⟨q1, q2, q3, q4, q5⟩ := may_lists hm
                    exact ms_same (by rw [b0]; exact HHD.out m hm e) (by rw [hkt]; exact HT6.out m hm e) q1 (by rw [b2]; exact HY2.out) q2 (by rw [b3]; exact HALL.out) q3 (by rw [b4]; exact HOK.out) q4 (by rw [b5]; exact HI5.out) q5 (by rw [b6]; exact hin6))
                  have HBOD := Lib.hid (show bodyM m6 = l from by
                    have et : textsM m6 = [t0, t1, t2, t3, t4, t5] := by
                      unfold textsM
                      rw [b1, b2, b3, b4, b5, b6, HY.out, HLI.out, HLK.out, HLN.out, hlo]
                      rfl
                    unfold bodyM
                    rw [b0, et, HTS.out]
                    exact HL2.out.symm)
                  have hfy : y.fits := by
                    rcases HY2.out with e | e
                    · rw [e]; exact ⟨by decide, by decide, by decide, by decide⟩
                    · exact It.may_fits e
                  have HWD := Lib.hid (show m6.Wide from ⟨by rw [b2]; exact hfy, by
                    rw [b3]
                    have := bytesOf_four li
                    have := T2.out
                    rw [HLI.out] at *
                    omega, by rw [b3]; exact all_fits HALL.out, by
                    rw [b4]
                    have := marksOf_ge lk
                    have := T3.out
                    rw [HLK.out] at *
                    omega, by rw [b4]; exact fun x hx => by have := (HOK.out x hx).2; omega⟩)
                  have hrow6 : Row w12 A6 (fun b => h < b) (lo.map (Value.int .i64)) := (Row.of_own (xs := lo.map (Value.int .i64)) (c := c6) (e := 3) (by rw [List.length_map]; exact hput)).mono fun b _ hb => by have := hb.1; omega
                  have hsay6 := own_says hput
                  have hk12b := hk12.mono (G := fun b => h < b) fun b _ (hb : h < b) => by omega
                  have HAT := Lib.hid (show ∀ wz, Keeps (fun b => h < b) w12 wz → MsIn wz m6 a6 (fun b => h < b) ∧ MsFree wz m6 a6 from fun wz hkb => by
                    have hu := HU11.out wz (hk12b.trans hkb)
                    exact ⟨⟨by rw [g1, b3]; exact (HIT11.out.keep hk12b).keep hkb, by rw [g3, b4]; exact (HMK11.out.keep hk12b).keep hkb, by rw [g5, b5]; exact (HRN11.out.keep hk12b).keep hkb, by rw [g7, b6]; exact hrow6.keep hkb, by rw [g2, b3]; exact HPT.out, by rw [g4, b4]; exact ⟨HPK.out.1, HPK.out.2.1⟩, by rw [g5, g6, b5]; exact HPN.out, by rw [g7, g8, b6]; exact hsay6⟩, ⟨by rw [g1, b3]; exact hu.1, by rw [g3, b4]; exact hu.2.1, by rw [g5, b5]; exact hu.2.2⟩⟩)
                  have HM12 := Lib.hid hmb
                  obtain ⟨vF, hvF⟩ : ∃ v, msV m6 a6 = v := ⟨_, rfl⟩
                  have HVF := Lib.hid hvF
                  clear hmb hk12 hlo hin6 hput e6 f6 HE5 HF5 HM11 HB11 O511 HK11 c5c HIT11 HMK11 HRN11 HU11 b0 b1 b2 b3 b4 b5 b6 g1 g2 g3 g4 g5 g6 g7 g8 hvF hrow6 hsay6 hfy hk12b hkt
                  go_wp2_with (first
                    | (refine list_loadM rfl (.tmp 4) rfl h _ _ HM12.out rfl vF HVF.out ?_)
                    | (refine list_storeM rfl (.tmp 2) (.tmp 55) rfl g _ m6 _ a6 HB12.out rfl HVF.out.symm ?_; intro wz hbz hkz hsz))
                  refine bodyPost_ret (v := .tuple #[msV m6 a6, .bool true]) (results_cell2 rfl rfl rfl (run_loadM hbz)) rfl ?_
                  have hkk := kp_behind HK12.out hkz (by have := HG.out; omega)
                  refine ⟨hkk, .inl ⟨m6, a6, HBOD.out, HWD.out, HUNI.out, ?_, rfl⟩⟩
                  exact fun W2 hW => (HAT.out _ ((hkz.mono fun b _ (hb : h < b) => by omega).trans (hW.mono fun b _ (hb : h < b) => by have := HWH.out; omega))).imp (fun hh => hh.mono fun b _ (hb : h < b) => by have := HWH.out; omega) id
                · have HK12 := Lib.hid (kp_behind HK11.out hk12 HWH.out)
                  have HB12 := Lib.hid (HB11.out.keep hk12 (by omega))
                  have HNO := Lib.hid (show ∀ m, mayM m = true → bodyM m ≠ l from fun m hm e => by
                    have et := HT6.out m hm e
                    simp only [textsM, List.cons.injEq, and_true] at et
                    exact hno _ (fun z hz => ((nodes_is (listB_is (mayM_parts hm).2.1).2.2.2.2).2 z hz) |> fun h => ⟨by omega, by omega⟩) et.2.2.2.2.2)
                  clear hk12 hno
                  go_wp2_with (first
                    | (refine list_buildM rfl _ rfl vZ (by rw [← HVZ.out]; kernel_rfl) ?_)
                    | (refine list_storeM rfl (.tmp 2) (.tmp 54) rfl g _ ms0 _ msA0 HB12.out rfl HVZ.out.symm ?_; intro wz hbz hkz hsz))
                  refine bodyPost_ret (v := .tuple #[msV ms0 msA0, .bool false]) (results_cell2 rfl rfl rfl (run_loadM hbz)) rfl ?_
                  exact ⟨kp_behind HK12.out hkz (by have := HG.out; omega), .inr ⟨HNO.out, rfl⟩⟩
              · have HK11 := Lib.hid (kp_behind HK10.out hk11 HWH.out)
                have HB11 := Lib.hid (HB10.out.keep hk11 (by omega))
                have HNO := Lib.hid (show ∀ m, mayM m = true → bodyM m ≠ l from fun m hm e => by
                  have et := HT6.out m hm e
                  simp only [textsM, List.cons.injEq, and_true] at et
                  exact hno _ (fun z hz => ((nodes_is (listB_is (mayM_parts hm).2.1).2.2.2.1).2 z hz) |> fun h => ⟨by omega, by omega⟩) et.2.2.2.2.1)
                clear hk11 hno
                go_wp2_with (first
                  | (refine list_buildM rfl _ rfl vZ (by rw [← HVZ.out]; kernel_rfl) ?_)
                  | (refine list_storeM rfl (.tmp 2) (.tmp 54) rfl g _ ms0 _ msA0 HB11.out rfl HVZ.out.symm ?_; intro wz hbz hkz hsz))
                refine bodyPost_ret (v := .tuple #[msV ms0 msA0, .bool false]) (results_cell2 rfl rfl rfl (run_loadM hbz)) rfl ?_
                exact ⟨kp_behind HK11.out hkz (by have := HG.out; omega), .inr ⟨HNO.out, rfl⟩⟩
            · have HK10 := Lib.hid (kp_behind HK9.out hk10 HWH.out)
              have HB10 := Lib.hid (HB9.out.keep hk10 (by omega))
              have HNO := Lib.hid (show ∀ m, mayM m = true → bodyM m ≠ l from fun m hm e => by
                have et := HT6.out m hm e
                simp only [textsM, List.cons.injEq, and_true] at et
                exact hno _ (mark_ok (mayM_parts hm).2.2.2) et.2.2.2.1)
              clear hk10 hno
              go_wp2_with (first
                | (refine list_buildM rfl _ rfl vZ (by rw [← HVZ.out]; kernel_rfl) ?_)
                | (refine list_storeM rfl (.tmp 2) (.tmp 54) rfl g _ ms0 _ msA0 HB10.out rfl HVZ.out.symm ?_; intro wz hbz hkz hsz))
              refine bodyPost_ret (v := .tuple #[msV ms0 msA0, .bool false]) (results_cell2 rfl rfl rfl (run_loadM hbz)) rfl ?_
              exact ⟨kp_behind HK10.out hkz (by have := HG.out; omega), .inr ⟨HNO.out, rfl⟩⟩
          · have HK9 := Lib.hid (kp_behind HK8.out hk9 HWH.out)
            have HB9 := Lib.hid (HB8.out.keep hk9 (by omega))
            have HNO := Lib.hid (show ∀ m, mayM m = true → bodyM m ≠ l from fun m hm e => by
              have et := HT6.out m hm e
              simp only [textsM, List.cons.injEq, and_true] at et
              exact hno _ (mayM_parts hm).2.2.1 et.2.2.1)
            clear hk9 hno
            go_wp2_with (first
              | (refine list_buildM rfl _ rfl vZ (by rw [← HVZ.out]; kernel_rfl) ?_)
              | (refine list_storeM rfl (.tmp 2) (.tmp 54) rfl g _ ms0 _ msA0 HB9.out rfl HVZ.out.symm ?_; intro wz hbz hkz hsz))
            refine bodyPost_ret (v := .tuple #[msV ms0 msA0, .bool false]) (results_cell2 rfl rfl rfl (run_loadM hbz)) rfl ?_
            exact ⟨kp_behind HK9.out hkz (by have := HG.out; omega), .inr ⟨HNO.out, rfl⟩⟩
        · have HK8 := Lib.hid (kp_behind HK7.out hk8 HWH.out)
          have HB8 := Lib.hid (HB7.out.keep hk8 (by omega))
          have HNO := Lib.hid (show ∀ m, mayM m = true → bodyM m ≠ l from fun m hm e => by
            have et := HT6.out m hm e
            simp only [textsM, List.cons.injEq, and_true] at et
            exact hno _ (listB_is (mayM_parts hm).2.1).1 et.2.1)
          clear hk8 hno
          go_wp2_with (first
            | (refine list_buildM rfl _ rfl vZ (by rw [← HVZ.out]; kernel_rfl) ?_)
            | (refine list_storeM rfl (.tmp 2) (.tmp 54) rfl g _ ms0 _ msA0 HB8.out rfl HVZ.out.symm ?_; intro wz hbz hkz hsz))
          refine bodyPost_ret (v := .tuple #[msV ms0 msA0, .bool false]) (results_cell2 rfl rfl rfl (run_loadM hbz)) rfl ?_
          exact ⟨kp_behind HK8.out hkz (by have := HG.out; omega), .inr ⟨HNO.out, rfl⟩⟩
      · have HK7 := Lib.hid (show Kp w w7 from ⟨hk7.os.trans HK6.out.os, hk7.tape.trans HK6.out.tape, hk7.output.trans HK6.out.output, Nat.le_trans HK6.out.size hk7.size, fun b _ hb => (hk7.block b (.inl (by have := HWH.out; omega)) (Nat.lt_of_lt_of_le hb HK6.out.size)).trans (HK6.out.block b trivial hb)⟩)
        have HB7 := Lib.hid (HB6.out.keep hk7 (.inl hgs2))
        have HNO := Lib.hid (show ∀ m, mayM m = true → bodyM m ≠ l from fun m hm e => hno (textsM m) rfl (texts_short hm) (body_split hm rfl HIN.out HL2.out e))
        clear hk7 hno HM6 HO HB6 HK6 HBARE HIN HL2 HDR
        go_wp2_with (first
          | (refine list_buildM rfl _ rfl vZ (by rw [← HVZ.out]; kernel_rfl) ?_)
          | (refine list_storeM rfl (.tmp 2) (.tmp 54) rfl g _ ms0 _ msA0 HB7.out rfl HVZ.out.symm ?_; intro wz hbz hkz hsz))
        refine bodyPost_ret (v := .tuple #[msV ms0 msA0, .bool false]) (results_cell2 rfl rfl rfl (run_loadM hbz)) rfl ?_
        exact ⟨kp_behind HK7.out hkz (by have := HG.out; omega), .inr ⟨HNO.out, rfl⟩⟩
    · have hne0 : True := trivial
      have HC := Lib.hid (show ∀ A2, A2 = A.map (·.add k) → Calls _ _ #[.slice A2 (n - k) (c - k), .slice (some ⟨h + 6, 0, none⟩) 6 6] w6 _ from fun A2 hA2 => HT.out A2 (c - k) (by
        have hcut := HROW.out.cut (k := k) (cap := c) (by rw [bcells_len, HN.out]; exact hkn) (by rw [bcells_len, HN.out]; exact hlc)
        rw [if_neg hck, bcells, ← List.map_drop, HDR.out, ← hA2] at hcut
        exact hcut) (by omega) (by unfold maxLen; omega))
      clear HT HROW hne0
      have hkc : k ≤ c := by omega
      go_wp2_with fail
      rw [HW6.out]
      refine (show Calls _ _ _ _ _ from HC.out _ rfl).mono ?_
      clear HW6 HC
      rintro e w7 (⟨ts, q, rfl, htl, hsh, hts, hw7⟩ | ⟨rfl, hno, hk7⟩)
      · obtain ⟨t0, t1, t2, t3, t4, t5, rfl⟩ := list_6 htl
        have hleft := texts_left w6 h q mH t0 t1 t2 t3 t4 t5 HM6.out HO.out.1 HO.out.2.1 HO.out.2.2.1 HO.out.2.2.2.1 HO.out.2.2.2.2 w7 hw7
        obtain ⟨hmb, o1, o2, o3, o4, o5, hk7⟩ := hleft
        have hT : ∀ (i : Nat) (t : List UInt8), [t0, t1, t2, t3, t4, t5][i]? = some t → t.length ≤ 65536 := fun i t hi => hsh t (List.mem_of_getElem? hi)
        have HT6 := Lib.hid (fun m (hm : mayM m = true) (e : bodyM m = l) => body_texts hm rfl hsh hts (body_split hm rfl HIN.out HL2.out e))
        have HTS := Lib.hid hts
        have HHD := Lib.hid (fun m (hm : mayM m = true) (e : bodyM m = l) => body_head hm rfl HIN.out HL2.out e)
        have HK7 := Lib.hid (show Kp w w7 from ⟨hk7.os.trans HK6.out.os, hk7.tape.trans HK6.out.tape, hk7.output.trans HK6.out.output, Nat.le_trans HK6.out.size hk7.size, fun b _ hb => (hk7.block b (by have := HWH.out; omega) (Nat.lt_of_lt_of_le hb HK6.out.size)).trans (HK6.out.block b trivial hb)⟩)
        have HB7 := Lib.hid (HB6.out.keep hk7 hgs2)
        obtain ⟨m1, e1⟩ : ∃ m1 : Ms, m1 = { mH with key := txt t0 } := ⟨_, rfl⟩
        rw [← e1] at hmb
        have HE1 := Lib.hid (show headZ m1 = headZ mH ∧ m1.key = txt t0 ∧ m1.item = it0 ∧ m1.items = [] ∧ m1.marks = [] ∧ m1.mem = [] ∧ m1.old = [] from by
          obtain ⟨b1, b2, b3, b4, b5, b6⟩ := HBARE.out
          rw [e1]; exact ⟨rfl, rfl, b2, b3, b4, b5, b6⟩)
        have HM7 := Lib.hid hmb
        have T0 := Lib.hid (hT 0 t0 rfl)
        have T1 := Lib.hid (hT 1 t1 rfl)
        have T2 := Lib.hid (hT 2 t2 rfl)
        have T3 := Lib.hid (hT 3 t3 rfl)
        have T4 := Lib.hid (hT 4 t4 rfl)
        have T5 := Lib.hid (hT 5 t5 rfl)
        have O1 := Lib.hid o1
        have O2 := Lib.hid o2
        have O3 := Lib.hid o3
        have O4 := Lib.hid o4
        have O5 := Lib.hid o5
        have c1 := o1.cell
        have hhs : h < w7.heap.size := HM7.out.lt
        clear hmb o1 o2 o3 o4 o5 hk7 hT hsh hts hw7 htl e1 HM6 HO HB6 HK6 HBARE HIN HDR
        go_wp2_with fail
        refine (parse_item w7 t1 (Nat.le_trans T1.out (by decide)) h m1 msA0 HM7.out HE1.out.2.2.1).mono ?_
        rintro e w8 ⟨hk8, (⟨y, rfl, hy, hy2, hmb⟩ | ⟨rfl, hno⟩)⟩
        · have HK8 := Lib.hid (kp_behind HK7.out hk8 HWH.out)
          have HB8 := Lib.hid (HB7.out.keep hk8 (by omega))
          have O28 := Lib.hid (O2.out.kp hk8 (by omega))
          have O38 := Lib.hid (O3.out.kp hk8 (by omega))
          have O48 := Lib.hid (O4.out.kp hk8 (by omega))
          have O58 := Lib.hid (O5.out.kp hk8 (by omega))
          obtain ⟨m2, e2⟩ : ∃ m2 : Ms, m2 = { m1 with item := y } := ⟨_, rfl⟩
          rw [← e2] at hmb
          have HE2 := Lib.hid (show headZ m2 = headZ mH ∧ m2.key = txt t0 ∧ m2.item = y ∧ m2.items = [] ∧ m2.marks = [] ∧ m2.mem = [] ∧ m2.old = [] from by
            obtain ⟨b0, b1, b2, b3, b4, b5, b6⟩ := HE1.out
            rw [e2]; exact ⟨b0, b1, rfl, b3, b4, b5, b6⟩)
          have HM8 := Lib.hid hmb
          have HY := Lib.hid hy
          have HY2 := Lib.hid hy2
          have c2 := O28.out.cell
          have hhs8 : h < w8.heap.size := HM8.out.lt
          clear hmb hk8 hy hy2 e2 HE1 HM7 HB7 O1 O2 O3 O4 O5 HK7 c1
          go_wp2_with fail
          refine (parse_items w8 t2 (Nat.le_trans T2.out (by decide)) h 16 (msC m2 msA0) 36 HM8.out (by show some (Value.slice none m2.items.length 0) = _; rw [HE2.out.2.2.2.1]; rfl)).mono ?_
          rintro e w9 ⟨hk9, (⟨A3, c3, li, rfl, hli, hall, hmb, hput⟩ | ⟨rfl, hno⟩)⟩
          · have HK9 := Lib.hid (kp_behind HK8.out hk9 HWH.out)
            have HB9 := Lib.hid (HB8.out.keep hk9 (by omega))
            have O39 := Lib.hid (O38.out.kp hk9 (by omega))
            have O49 := Lib.hid (O48.out.kp hk9 (by omega))
            have O59 := Lib.hid (O58.out.kp hk9 (by omega))
            replace hmb : MB w9 h { m2 with items := li } { msA0 with ia := A3, ic := c3 } := hmb
            obtain ⟨m3, e3⟩ : ∃ m3 : Ms, m3 = { m2 with items := li } := ⟨_, rfl⟩
            obtain ⟨a3, f3⟩ : ∃ a3 : MsA, a3 = { msA0 with ia := A3, ic := c3 } := ⟨_, rfl⟩
            rw [← e3, ← f3] at hmb
            have HE3 := Lib.hid (show headZ m3 = headZ mH ∧ m3.key = txt t0 ∧ m3.item = y ∧ m3.items = li ∧ m3.marks = [] ∧ m3.mem = [] ∧ m3.old = [] from by
              obtain ⟨b0, b1, b2, b3, b4, b5, b6⟩ := HE2.out
              rw [e3]; exact ⟨b0, b1, b2, rfl, b4, b5, b6⟩)
            have HF3 := Lib.hid (show a3.ia = A3 ∧ a3.ic = c3 ∧ a3.ma = none ∧ a3.mc = 0 ∧ a3.ba = none ∧ a3.bc = 0 ∧ a3.oa = none ∧ a3.oc = 0 from by rw [f3]; exact ⟨rfl, rfl, rfl, rfl, rfl, rfl, rfl, rfl⟩)
            have HM9 := Lib.hid hmb
            have HLI := Lib.hid hli
            have HALL := Lib.hid hall
            have HPT := Lib.hid (show li.length ≤ c3 ∧ c3 ≤ maxLen from ⟨hput.1, hput.2.1⟩)
            have HU9 := Lib.hid (show ∀ W', Keeps (fun b => h < b) w9 W' → Unfr W' A3 li.length from fun W' hk => hput.2.2.2.keep hk fun b o h0 e => by
              obtain ⟨b', o', e', hG, -⟩ := hput.2.2.1 0 h0
              rw [e] at e'; cases e'
              exact ⟨by omega, hG.2⟩)
            have HIT9 := Lib.hid (show ItsAt w9 A3 (fun b => h < b) li from hput.2.2.1.mono fun b _ hb => by have := hb.1; omega)
            have c3c := O39.out.cell
            have hhs9 : h < w9.heap.size := HM9.out.lt
            clear hmb hk9 hli hall hput e3 f3 HE2 HM8 HB8 O28 O38 O48 O58 HK8 c2
            go_wp2_with fail
            refine (parse_marks w9 t3 (Nat.le_trans T3.out (by decide)) h 17 (msC m3 a3) HM9.out (by show some (Value.slice a3.ma m3.marks.length a3.mc) = _; rw [HE3.out.2.2.2.2.1, HF3.out.2.2.1, HF3.out.2.2.2.1]; rfl)).mono ?_
            rintro e w10 ⟨hk10, (⟨A4, c4, lk, rfl, hlk, hok, hmb, hput⟩ | ⟨rfl, hno⟩)⟩
            · have HK10 := Lib.hid (kp_behind HK9.out hk10 HWH.out)
              have HB10 := Lib.hid (HB9.out.keep hk10 (by omega))
              have O410 := Lib.hid (O49.out.kp hk10 (by omega))
              have O510 := Lib.hid (O59.out.kp hk10 (by omega))
              replace hmb : MB w10 h { m3 with marks := lk } { a3 with ma := A4, mc := c4 } := hmb
              obtain ⟨m4, e4⟩ : ∃ m4 : Ms, m4 = { m3 with marks := lk } := ⟨_, rfl⟩
              obtain ⟨a4, f4⟩ : ∃ a4 : MsA, a4 = { a3 with ma := A4, mc := c4 } := ⟨_, rfl⟩
              rw [← e4, ← f4] at hmb
              have HE4 := Lib.hid (show headZ m4 = headZ mH ∧ m4.key = txt t0 ∧ m4.item = y ∧ m4.items = li ∧ m4.marks = lk ∧ m4.mem = [] ∧ m4.old = [] from by
                obtain ⟨b0, b1, b2, b3, b4, b5, b6⟩ := HE3.out
                rw [e4]; exact ⟨b0, b1, b2, b3, rfl, b5, b6⟩)
              have HF4 := Lib.hid (show a4.ia = A3 ∧ a4.ic = c3 ∧ a4.ma = A4 ∧ a4.mc = c4 ∧ a4.ba = none ∧ a4.bc = 0 ∧ a4.oa = none ∧ a4.oc = 0 from by
                obtain ⟨b1, b2, b3, b4, b5, b6, b7, b8⟩ := HF3.out
                rw [f4]; exact ⟨b1, b2, rfl, rfl, b5, b6, b7, b8⟩)
              have HM10 := Lib.hid hmb
              have HLK := Lib.hid hlk
              have HOK := Lib.hid hok
              have HPK := Lib.hid (own_says hput)
              have HU10 := Lib.hid (show ∀ W', Keeps (fun b => h < b) w10 W' → Unfr W' A3 li.length ∧ Unfr W' A4 lk.length from fun W' hk => ⟨HU9.out W' ((hk10.mono fun b _ (hb : h < b) => by omega).trans hk), (Unfr.own hput).keep hk fun b o h0 e => by
                have := own_new hput b o e
                exact ⟨by omega, this.2⟩⟩)
              have HIT10 := Lib.hid (HIT9.out.keep (hk10.mono fun b _ (hb : h < b) => by omega))
              have HMK10 := Lib.hid (show MksAt w10 A4 (fun b => h < b) lk from (MksAt.of_own hput rfl).mono fun b _ hb => by have := hb.1; omega)
              have c4c := O410.out.cell
              have hhs10 : h < w10.heap.size := HM10.out.lt
              clear hmb hk10 hlk hok hput e4 f4 HE3 HF3 HM9 HB9 O39 O49 O59 HK9 c3c HIT9 HU9
              go_wp2_with fail
              refine (parse_nodes w10 t4 (Nat.le_trans T4.out (by decide)) h 18 (msC m4 a4) HM10.out (by show some (Value.slice a4.ba m4.mem.length a4.bc) = _; rw [HE4.out.2.2.2.2.2.1, HF4.out.2.2.2.2.1, HF4.out.2.2.2.2.2.1]; rfl)).mono ?_
              rintro e w11 ⟨hk11, (⟨A5, c5, ln, rfl, hln, hin5, hmb, hput⟩ | ⟨rfl, hno⟩)⟩
              · have HK11 := Lib.hid (kp_behind HK10.out hk11 HWH.out)
                have HB11 := Lib.hid (HB10.out.keep hk11 (by omega))
                have O511 := Lib.hid (O510.out.kp hk11 (by omega))
                replace hmb : MB w11 h { m4 with mem := ln } { a4 with ba := A5, bc := c5 } := hmb
                obtain ⟨m5, e5⟩ : ∃ m5 : Ms, m5 = { m4 with mem := ln } := ⟨_, rfl⟩
                obtain ⟨a5, f5⟩ : ∃ a5 : MsA, a5 = { a4 with ba := A5, bc := c5 } := ⟨_, rfl⟩
                rw [← e5, ← f5] at hmb
                have HE5 := Lib.hid (show headZ m5 = headZ mH ∧ m5.key = txt t0 ∧ m5.item = y ∧ m5.items = li ∧ m5.marks = lk ∧ m5.mem = ln ∧ m5.old = [] from by
                  obtain ⟨b0, b1, b2, b3, b4, b5, b6⟩ := HE4.out
                  rw [e5]; exact ⟨b0, b1, b2, b3, b4, rfl, b6⟩)
                have HF5 := Lib.hid (show a5.ia = A3 ∧ a5.ic = c3 ∧ a5.ma = A4 ∧ a5.mc = c4 ∧ a5.ba = A5 ∧ a5.bc = c5 ∧ a5.oa = none ∧ a5.oc = 0 from by
                  obtain ⟨b1, b2, b3, b4, b5, b6, b7, b8⟩ := HF4.out
                  rw [f5]; exact ⟨b1, b2, b3, b4, rfl, rfl, b7, b8⟩)
                have HM11 := Lib.hid hmb
                have HLN := Lib.hid hln
                have HPN := Lib.hid (own_says hput)
                have HI5 := Lib.hid hin5
                have HU11 := Lib.hid (show ∀ W', Keeps (fun b => h < b) w11 W' → Unfr W' A3 li.length ∧ Unfr W' A4 lk.length ∧ Unfr W' A5 ln.length from fun W' hk => ⟨(HU10.out W' ((hk11.mono fun b _ (hb : h < b) => by omega).trans hk)).1, (HU10.out W' ((hk11.mono fun b _ (hb : h < b) => by omega).trans hk)).2, (Unfr.own hput).keep hk fun b o h0 e => by
                  have := own_new hput b o e
                  exact ⟨by omega, this.2⟩⟩)
                have HIT11 := Lib.hid (HIT10.out.keep (hk11.mono fun b _ (hb : h < b) => by omega))
                have HMK11 := Lib.hid (HMK10.out.keep (hk11.mono fun b _ (hb : h < b) => by omega))
                have HRN11 := Lib.hid (show Row w11 A5 (fun b => h < b) (ln.map (Value.int .i64)) from (Row.of_own (xs := ln.map (Value.int .i64)) (c := c5) (e := 3) (by rw [List.length_map]; exact hput)).mono fun b _ hb => by have := hb.1; omega)
                have c5c := O511.out.cell
                have hhs11 : h < w11.heap.size := HM11.out.lt
                clear hmb hk11 hln hin5 hput e5 f5 HE4 HF4 HM10 HB10 O410 O510 HK10 c4c HIT10 HMK10 HU10
                go_wp2_with fail
                refine (parse_nodes w11 t5 (Nat.le_trans T5.out (by decide)) h 20 (msC m5 a5) HM11.out (by show some (Value.slice a5.oa m5.old.length a5.oc) = _; rw [HE5.out.2.2.2.2.2.2, HF5.out.2.2.2.2.2.2.1, HF5.out.2.2.2.2.2.2.2]; rfl)).mono ?_
                rintro e w12 ⟨hk12, (⟨A6, c6, lo, rfl, hlo, hin6, hmb, hput⟩ | ⟨rfl, hno⟩)⟩
                · have HK12 := Lib.hid (kp_behind HK11.out hk12 HWH.out)
                  have HB12 := Lib.hid (HB11.out.keep hk12 (by omega))
                  replace hmb : MB w12 h { m5 with old := lo } { a5 with oa := A6, oc := c6 } := hmb
                  obtain ⟨m6, e6⟩ : ∃ m6 : Ms, m6 = { m5 with old := lo } := ⟨_, rfl⟩
                  obtain ⟨a6, f6⟩ : ∃ a6 : MsA, a6 = { a5 with oa := A6, oc := c6 } := ⟨_, rfl⟩
                  rw [← e6, ← f6] at hmb
                  obtain ⟨b0, b1, b2, b3, b4, b5, b6⟩ := (show headZ m6 = headZ mH ∧ m6.key = txt t0 ∧ m6.item = y ∧ m6.items = li ∧ m6.marks = lk ∧ m6.mem = ln ∧ m6.old = lo from by
                    obtain ⟨b0, b1, b2, b3, b4, b5, b6⟩ := HE5.out
                    rw [e6]; exact ⟨b0, b1, b2, b3, b4, b5, rfl⟩)
                  obtain ⟨g1, g2, g3, g4, g5, g6, g7, g8⟩ := (show a6.ia = A3 ∧ a6.ic = c3 ∧ a6.ma = A4 ∧ a6.mc = c4 ∧ a6.ba = A5 ∧ a6.bc = c5 ∧ a6.oa = A6 ∧ a6.oc = c6 from by
                    obtain ⟨b1, b2, b3, b4, b5, b6, b7, b8⟩ := HF5.out
                    rw [f6]; exact ⟨b1, b2, b3, b4, b5, b6, rfl, rfl⟩)
                  have hkt : textsM m6 = [t0, t1, t2, t3, t4, t5] := by
                    unfold textsM
                    rw [b1, b2, b3, b4, b5, b6, HY.out, HLI.out, HLK.out, HLN.out, hlo]
                    rfl
                  have HUNI := Lib.hid (show ∀ m, mayM m = true → bodyM m = l → m = m6 from fun m hm e => by
                    obtain ⟨q1, q2, q3, q4, q5⟩ := may_lists hm
                    exact ms_same (by rw [b0]; exact HHD.out m hm e) (by rw [hkt]; exact HT6.out m hm e) q1 (by rw [b2]; exact HY2.out) q2 (by rw [b3]; exact HALL.out) q3 (by rw [b4]; exact HOK.out) q4 (by rw [b5]; exact HI5.out) q5 (by rw [b6]; exact hin6))
                  have HBOD := Lib.hid (show bodyM m6 = l from by
                    have et : textsM m6 = [t0, t1, t2, t3, t4, t5] := by
                      unfold textsM
                      rw [b1, b2, b3, b4, b5, b6, HY.out, HLI.out, HLK.out, HLN.out, hlo]
                      rfl
                    unfold bodyM
                    rw [b0, et, HTS.out]
                    exact HL2.out.symm)
                  have hfy : y.fits := by
                    rcases HY2.out with e | e
                    · rw [e]; exact ⟨by decide, by decide, by decide, by decide⟩
                    · exact It.may_fits e
                  have HWD := Lib.hid (show m6.Wide from ⟨by rw [b2]; exact hfy, by
                    rw [b3]
                    have := bytesOf_four li
                    have := T2.out
                    rw [HLI.out] at *
                    omega, by rw [b3]; exact all_fits HALL.out, by
                    rw [b4]
                    have := marksOf_ge lk
                    have := T3.out
                    rw [HLK.out] at *
                    omega, by rw [b4]; exact fun x hx => by have := (HOK.out x hx).2; omega⟩)
                  have hrow6 : Row w12 A6 (fun b => h < b) (lo.map (Value.int .i64)) := (Row.of_own (xs := lo.map (Value.int .i64)) (c := c6) (e := 3) (by rw [List.length_map]; exact hput)).mono fun b _ hb => by have := hb.1; omega
                  have hsay6 := own_says hput
                  have hk12b := hk12.mono (G := fun b => h < b) fun b _ (hb : h < b) => by omega
                  have HAT := Lib.hid (show ∀ wz, Keeps (fun b => h < b) w12 wz → MsIn wz m6 a6 (fun b => h < b) ∧ MsFree wz m6 a6 from fun wz hkb => by
                    have hu := HU11.out wz (hk12b.trans hkb)
                    exact ⟨⟨by rw [g1, b3]; exact (HIT11.out.keep hk12b).keep hkb, by rw [g3, b4]; exact (HMK11.out.keep hk12b).keep hkb, by rw [g5, b5]; exact (HRN11.out.keep hk12b).keep hkb, by rw [g7, b6]; exact hrow6.keep hkb, by rw [g2, b3]; exact HPT.out, by rw [g4, b4]; exact ⟨HPK.out.1, HPK.out.2.1⟩, by rw [g5, g6, b5]; exact HPN.out, by rw [g7, g8, b6]; exact hsay6⟩, ⟨by rw [g1, b3]; exact hu.1, by rw [g3, b4]; exact hu.2.1, by rw [g5, b5]; exact hu.2.2⟩⟩)
                  have HM12 := Lib.hid hmb
                  obtain ⟨vF, hvF⟩ : ∃ v, msV m6 a6 = v := ⟨_, rfl⟩
                  have HVF := Lib.hid hvF
                  clear hmb hk12 hlo hin6 hput e6 f6 HE5 HF5 HM11 HB11 O511 HK11 c5c HIT11 HMK11 HRN11 HU11 b0 b1 b2 b3 b4 b5 b6 g1 g2 g3 g4 g5 g6 g7 g8 hvF hrow6 hsay6 hfy hk12b hkt
                  go_wp2_with (first
                    | (refine list_loadM rfl (.tmp 4) rfl h _ _ HM12.out rfl vF HVF.out ?_)
                    | (refine list_storeM rfl (.tmp 2) (.tmp 55) rfl g _ m6 _ a6 HB12.out rfl HVF.out.symm ?_; intro wz hbz hkz hsz))
                  refine bodyPost_ret (v := .tuple #[msV m6 a6, .bool true]) (results_cell2 rfl rfl rfl (run_loadM hbz)) rfl ?_
                  have hkk := kp_behind HK12.out hkz (by have := HG.out; omega)
                  refine ⟨hkk, .inl ⟨m6, a6, HBOD.out, HWD.out, HUNI.out, ?_, rfl⟩⟩
                  exact fun W2 hW => (HAT.out _ ((hkz.mono fun b _ (hb : h < b) => by omega).trans (hW.mono fun b _ (hb : h < b) => by have := HWH.out; omega))).imp (fun hh => hh.mono fun b _ (hb : h < b) => by have := HWH.out; omega) id
                · have HK12 := Lib.hid (kp_behind HK11.out hk12 HWH.out)
                  have HB12 := Lib.hid (HB11.out.keep hk12 (by omega))
                  have HNO := Lib.hid (show ∀ m, mayM m = true → bodyM m ≠ l from fun m hm e => by
                    have et := HT6.out m hm e
                    simp only [textsM, List.cons.injEq, and_true] at et
                    exact hno _ (fun z hz => ((nodes_is (listB_is (mayM_parts hm).2.1).2.2.2.2).2 z hz) |> fun h => ⟨by omega, by omega⟩) et.2.2.2.2.2)
                  clear hk12 hno
                  go_wp2_with (first
                    | (refine list_buildM rfl _ rfl vZ (by rw [← HVZ.out]; kernel_rfl) ?_)
                    | (refine list_storeM rfl (.tmp 2) (.tmp 54) rfl g _ ms0 _ msA0 HB12.out rfl HVZ.out.symm ?_; intro wz hbz hkz hsz))
                  refine bodyPost_ret (v := .tuple #[msV ms0 msA0, .bool false]) (results_cell2 rfl rfl rfl (run_loadM hbz)) rfl ?_
                  exact ⟨kp_behind HK12.out hkz (by have := HG.out; omega), .inr ⟨HNO.out, rfl⟩⟩
              · have HK11 := Lib.hid (kp_behind HK10.out hk11 HWH.out)
                have HB11 := Lib.hid (HB10.out.keep hk11 (by omega))
                have HNO := Lib.hid (show ∀ m, mayM m = true → bodyM m ≠ l from fun m hm e => by
                  have et := HT6.out m hm e
                  simp only [textsM, List.cons.injEq, and_true] at et
                  exact hno _ (fun z hz => ((nodes_is (listB_is (mayM_parts hm).2.1).2.2.2.1).2 z hz) |> fun h => ⟨by omega, by omega⟩) et.2.2.2.2.1)
                clear hk11 hno
                go_wp2_with (first
                  | (refine list_buildM rfl _ rfl vZ (by rw [← HVZ.out]; kernel_rfl) ?_)
                  | (refine list_storeM rfl (.tmp 2) (.tmp 54) rfl g _ ms0 _ msA0 HB11.out rfl HVZ.out.symm ?_; intro wz hbz hkz hsz))
                refine bodyPost_ret (v := .tuple #[msV ms0 msA0, .bool false]) (results_cell2 rfl rfl rfl (run_loadM hbz)) rfl ?_
                exact ⟨kp_behind HK11.out hkz (by have := HG.out; omega), .inr ⟨HNO.out, rfl⟩⟩
            · have HK10 := Lib.hid (kp_behind HK9.out hk10 HWH.out)
              have HB10 := Lib.hid (HB9.out.keep hk10 (by omega))
              have HNO := Lib.hid (show ∀ m, mayM m = true → bodyM m ≠ l from fun m hm e => by
                have et := HT6.out m hm e
                simp only [textsM, List.cons.injEq, and_true] at et
                exact hno _ (mark_ok (mayM_parts hm).2.2.2) et.2.2.2.1)
              clear hk10 hno
              go_wp2_with (first
                | (refine list_buildM rfl _ rfl vZ (by rw [← HVZ.out]; kernel_rfl) ?_)
                | (refine list_storeM rfl (.tmp 2) (.tmp 54) rfl g _ ms0 _ msA0 HB10.out rfl HVZ.out.symm ?_; intro wz hbz hkz hsz))
              refine bodyPost_ret (v := .tuple #[msV ms0 msA0, .bool false]) (results_cell2 rfl rfl rfl (run_loadM hbz)) rfl ?_
              exact ⟨kp_behind HK10.out hkz (by have := HG.out; omega), .inr ⟨HNO.out, rfl⟩⟩
          · have HK9 := Lib.hid (kp_behind HK8.out hk9 HWH.out)
            have HB9 := Lib.hid (HB8.out.keep hk9 (by omega))
            have HNO := Lib.hid (show ∀ m, mayM m = true → bodyM m ≠ l from fun m hm e => by
              have et := HT6.out m hm e
              simp only [textsM, List.cons.injEq, and_true] at et
              exact hno _ (mayM_parts hm).2.2.1 et.2.2.1)
            clear hk9 hno
            go_wp2_with (first
              | (refine list_buildM rfl _ rfl vZ (by rw [← HVZ.out]; kernel_rfl) ?_)
              | (refine list_storeM rfl (.tmp 2) (.tmp 54) rfl g _ ms0 _ msA0 HB9.out rfl HVZ.out.symm ?_; intro wz hbz hkz hsz))
            refine bodyPost_ret (v := .tuple #[msV ms0 msA0, .bool false]) (results_cell2 rfl rfl rfl (run_loadM hbz)) rfl ?_
            exact ⟨kp_behind HK9.out hkz (by have := HG.out; omega), .inr ⟨HNO.out, rfl⟩⟩
        · have HK8 := Lib.hid (kp_behind HK7.out hk8 HWH.out)
          have HB8 := Lib.hid (HB7.out.keep hk8 (by omega))
          have HNO := Lib.hid (show ∀ m, mayM m = true → bodyM m ≠ l from fun m hm e => by
            have et := HT6.out m hm e
            simp only [textsM, List.cons.injEq, and_true] at et
            exact hno _ (listB_is (mayM_parts hm).2.1).1 et.2.1)
          clear hk8 hno
          go_wp2_with (first
            | (refine list_buildM rfl _ rfl vZ (by rw [← HVZ.out]; kernel_rfl) ?_)
            | (refine list_storeM rfl (.tmp 2) (.tmp 54) rfl g _ ms0 _ msA0 HB8.out rfl HVZ.out.symm ?_; intro wz hbz hkz hsz))
          refine bodyPost_ret (v := .tuple #[msV ms0 msA0, .bool false]) (results_cell2 rfl rfl rfl (run_loadM hbz)) rfl ?_
          exact ⟨kp_behind HK8.out hkz (by have := HG.out; omega), .inr ⟨HNO.out, rfl⟩⟩
      · have HK7 := Lib.hid (show Kp w w7 from ⟨hk7.os.trans HK6.out.os, hk7.tape.trans HK6.out.tape, hk7.output.trans HK6.out.output, Nat.le_trans HK6.out.size hk7.size, fun b _ hb => (hk7.block b (.inl (by have := HWH.out; omega)) (Nat.lt_of_lt_of_le hb HK6.out.size)).trans (HK6.out.block b trivial hb)⟩)
        have HB7 := Lib.hid (HB6.out.keep hk7 (.inl hgs2))
        have HNO := Lib.hid (show ∀ m, mayM m = true → bodyM m ≠ l from fun m hm e => hno (textsM m) rfl (texts_short hm) (body_split hm rfl HIN.out HL2.out e))
        clear hk7 hno HM6 HO HB6 HK6 HBARE HIN HL2 HDR
        go_wp2_with (first
          | (refine list_buildM rfl _ rfl vZ (by rw [← HVZ.out]; kernel_rfl) ?_)
          | (refine list_storeM rfl (.tmp 2) (.tmp 54) rfl g _ ms0 _ msA0 HB7.out rfl HVZ.out.symm ?_; intro wz hbz hkz hsz))
        refine bodyPost_ret (v := .tuple #[msV ms0 msA0, .bool false]) (results_cell2 rfl rfl rfl (run_loadM hbz)) rfl ?_
        exact ⟨kp_behind HK7.out hkz (by have := HG.out; omega), .inr ⟨HNO.out, rfl⟩⟩
  · obtain ⟨vY, hvY⟩ : ∃ v, msV ms0 msA0 = v := ⟨_, rfl⟩
    have HVY := Lib.hid hvY
    rw [hvY]
    have HK2 := Lib.hid (HK1.out.trans hk2)
    have HB2 := Lib.hid (HB1.out.kp hk2)
    have hgs2 : g < w2.heap.size := by have := hk2.size; omega
    have HNO := Lib.hid (show ∀ m, mayM m = true → bodyM m ≠ l from fun m hm e => hno m _ (headZ_in (mayM_parts hm).1) e.symm)
    clear hno hvY hk2 HB1 HK1 HPH
    go_upto_region 2 with (first
      | (refine list_allocM rfl rfl ?_; intro w3 hb3 hk3 hs3)
      | (refine list_storeM rfl (.tmp 4) (.tmp 15) rfl _ ms0 ms0 msA0 msA0 hb3 rfl HVY.out.symm ?_; intro w4 hb4 hk4 hs4))
    have HK4 := Lib.hid (kp_behind (HK2.out.trans hk3) hk4 (by have := HK2.out.size; omega))
    have HB4 := Lib.hid ((HB2.out.kp hk3).keep hk4 (by omega))
    clear hb3 hk3 hs3 hb4 hk4 hs4 HK2 HB2
    go_wp2_with (first
      | (refine list_buildM rfl _ rfl vZ (by rw [← HVZ.out]; kernel_rfl) ?_)
      | (refine list_storeM rfl (.tmp 2) (.tmp 20) rfl g _ ms0 _ msA0 HB4.out rfl HVZ.out.symm ?_; intro w9 hb9 hk9 hs9))
    refine bodyPost_ret (v := .tuple #[msV ms0 msA0, .bool false]) (results_cell2 rfl rfl rfl (run_loadM hb9)) rfl ?_
    exact ⟨kp_behind HK4.out hk9 (by have := HG.out; omega), .inr ⟨HNO.out, rfl⟩⟩

end Go.Proofs.YtpijhpfcigjkeaaDoor
