/-
  THE WALK OF DevOwn, whatever the program's device is made of.
-/
import Derived.Test.YtgmgojpkjchmcaaDevOne
import Derived.Test.YtgmgojpkjchmcaaDevTwo
import Derived.Outline
namespace Go.Proofs.Ytgmgojpkjchmcaa.devOwn
open Go Go.RowKit Go.Joins

/-- An owned row of integers, whichever. -/
def RowZ (W : World) (base : Nat) (e : TypeId) (k : IntKind) (v : Value) (n : Nat) : Prop := ∃ zs : List Int, W.ownsRow base e 1 v n (zs.map (Value.int k))
section
variable {W W' : World} {base : Nat} {e : TypeId} {k : IntKind} {v : Value} {n c g : Nat} {F : Nat → Prop}
theorem RowZ.store (h : RowZ W base e k (.slice (some ⟨g, 0, none⟩) n c) n) (j : Nat) (z : Int) : RowZ (W.setCell ⟨g, j, none⟩ (.int k z)) base e k (.slice (some ⟨g, 0, none⟩) n c) n := by
  obtain ⟨zs, h⟩ := h
  exact ⟨zs.set j z, by rw [List.map_set]; exact (h.stored j _).1⟩
theorem RowZ.keep (h : RowZ W base e k v n) (hk : Keeps F W W') (hF : ∀ b, v.ownBlock = some b → F b) : RowZ W' base e k v n := by
  obtain ⟨zs, h⟩ := h
  exact ⟨zs, hk.own h hF⟩
theorem RowZ.at_ (h : RowZ W base e k (.slice (some ⟨g, 0, none⟩) n c) n) {j : Nat} (hj : j < n) : ∃ z, W.cell? ⟨g, j, none⟩ = some (.int k z) := by
  obtain ⟨zs, h⟩ := h
  have hl : n = zs.length := by have := h.1; simp at this; omega
  exact ⟨zs[j], (h.cellAt j (by omega)).trans (by simp [List.getElem?_eq_getElem (show j < zs.length by omega)])⟩
theorem RowZ.frozen (h : RowZ W base e k (.slice (some ⟨g, 0, none⟩) n c) n) (j : Nat) : W.frozen? ⟨g, j, none⟩ = false := by
  obtain ⟨zs, h⟩ := h
  exact h.frozenAt j
theorem RowZ.form {A : Option Addr} (h : RowZ W base e k (.slice A n c) n) (hn : 0 < n) : ∃ g, A = some ⟨g, 0, none⟩ := by
  obtain ⟨zs, h⟩ := h
  obtain ⟨g, _, e, _⟩ := h.form hn
  injection e with e
  exact ⟨g, e⟩
theorem rowZ_bytes {l : List UInt8} (h : W.ownsRow base e 1 v n (bcells l)) : RowZ W base e .u8 v n := ⟨l.map fun b => (b.toNat : Int), by rw [List.map_map]; exact h⟩
theorem rowZ_nats {l : List Nat} (h : W.ownsRow base e 1 v n (nats l)) : RowZ W base e .i64 v n := ⟨l.map fun b : Nat => (b : Int), by rw [List.map_map]; exact h⟩
theorem own_cap {A : Option Addr} {xs : List Value} (h : W.ownsRow base e 1 (.slice A n c) n xs) : n ≤ c ∧ c ≤ maxLen ∧ (A = none → c = 0) := by
  rcases h.2 with ⟨h', h0⟩ | ⟨g', cap', cur, h', _, _, h1, h2, _⟩
  · injection h' with a1 a2 a3
    subst a2 a3
    exact ⟨Nat.le_refl _, Nat.zero_le _, fun _ => rfl⟩
  · injection h' with a1 a2 a3
    subst a1 a3
    exact ⟨h1, h2, fun h => by cases h⟩
end
theorem store_one {D : DevOK} {w wr : World} {p g : Nat} {F : Foot} {s : SDev} (h : One D w wr p F s) (h1 : w.heap.size ≤ g) (h2 : ¬ F.all g) (j : Nat) (v : Value) : One D w (wr.setCell ⟨g, j, none⟩ v) p F s :=
  ⟨D.keep h.d ((Keeps.refl _ _).setCell (.inr h2) _), h.gf, h.kp.setCell (.inl h1) _⟩

/-- The device that one write left. -/
def s1 (l : List UInt8) : SDev := (SDev.new 2).write 0 l
theorem s1_write (l : List UInt8) (h : l.length ≤ 64) : (SDev.new 2).writeZ 0 l = (0, s1 l) := by
  unfold SDev.writeZ s1
  rw [if_neg (by decide), if_neg (by omega)]
  rfl
theorem s1_read (l : List UInt8) : (s1 l).readL 0 = l ++ blank.drop l.length := by
  unfold SDev.readL s1 SDev.write SDev.new over
  rfl
theorem s1_len (l : List UInt8) (h : l.length ≤ 64) : (l ++ blank.drop l.length).length = 64 := by simp [blank]; omega
theorem s1_loose (l : List UInt8) : (s1 l).loose = [0] := by
  show trues [true, false] = [0]
  decide

set_option maxRecDepth 100000 in
set_option maxHeartbeats 4000000 in
theorem walk (D : DevOK) (w : World) (BA : Option Addr) (Bc : Nat) (Bl : List UInt8) (f3 : Bl.length ≤ Bc) (f4 : Bc ≤ maxLen) (hf5 : BA = none → Bc = 0) (hB : Row w BA (fun b => b < w.heap.size) (bcells Bl)) :
    Calls Try.prog 5 #[.slice BA Bl.length Bc] w fun e w' => e = .returned (.bool true) ∧ Below w.heap.size w w' := by
  have f5 := Lib.hid hf5
  have f6 := Lib.hid (bcells_take hB 64)
  unfold maxLen at f4
  obtain ⟨l, hl⟩ : ∃ l, l = Bl.take 64 := ⟨_, rfl⟩
  rw [← hl] at f6
  obtain ⟨m, hm⟩ : ∃ m, m = l.length := ⟨_, rfl⟩
  have hmb : m = min Bl.length 64 := by rw [hm, hl, List.length_take, Nat.min_comm]
  have Hmb := Lib.hid hmb
  have Hm := Lib.hid hm
  have hm64 : m ≤ 64 := by omega
  clear hl hm hmb hB hf5
  go_enter Try.func5, Try.ntmps5
  go_wp2_with fail
  refine (begun_any D w).mono ?_
  rintro e w1 ⟨rfl, hk1⟩
  have HK1 := Lib.hid hk1
  have HS := Lib.hid (show Src Try.prog 1 28 (.slice BA m Bc) m (bcells l) w1 from by
    have := (f6.out.keep (hk1.mono fun _ _ _ => trivial)).src (c := Bc) Try.underlying28 (bcells_one l)
    rwa [bcells_len, ← Hm.out] at this)
  clear hk1
  have hs1 := HK1.out.size
  go_wp2_with fail
  refine (short_at BA Bl.length Bc 64 64 m rfl Hmb.out _ f3 (by unfold maxLen; omega) f5.out (by decide)).mono ?_
  rintro e w' ⟨rfl, rfl⟩
  go_wp2_with (at_builtin; refine byte_elem.list_append rfl (.const (.slice none 0 0)) (.tmp 19) _ rfl rfl (World.ownsRow_nil _ w.heap.size _ _) rfl HS.out ?c3 ?c4 ?c5 ?_)
  case c3 => unfold maxLen; omega
  case c4 => omega
  case c5 => exact hs1
  intro v' w2 hown' hg hb
  have hk2 : Keeps (fun _ => True) w w2 := by
    exact ((Onto.refl _ _).grown hg (by simpa using hb)).keeps HK1.out (by simp [Value.ownBlock])
  have hown : OwnB w2 w.heap.size v' l := by unfold OwnB; rw [← Hm.out]; simpa using hown'
  obtain ⟨A, c, rfl, -, hrow⟩ := own_slice hown
  have hcap := own_cap hown
  rw [← Hm.out] at hcap
  have hoz : RowZ w2 w.heap.size 5 .u8 (.slice A m c) m := by rw [Hm.out]; exact rowZ_bytes hown
  have hblk := hown.lt
  rw [← Hm.out] at hblk ⊢
  have k0 : (convert 28 9 (.slice A m c)).run Try.prog w2 = .ok (.string (txt l)) w2 :=
    hrow.to_string Try.underlying28 Try.underlying5 Try.underlying9 _ _ Hm.out
  have HK2 := Lib.hid hk2
  have HR2 := Lib.hid hrow
  have HZ2 := Lib.hid hoz
  have HBL := Lib.hid hblk
  have hc1 := hcap.1
  have hc2 := hcap.2.1
  have HC3 := Lib.hid hcap.2.2
  unfold maxLen at hc2
  clear hown hown' hg hb hk2 hrow hoz hblk hcap HS hs1
  go_wp2_with fail
  refine (D.new _ 2 (by decide) (by decide)).mono ?_
  rintro e w3 ⟨p, F, rfl, hr, hge, hk3⟩
  rw [show clampN 2 = 2 from by decide] at hr
  have HN := Lib.hid (show One D w w3 p F (SDev.new 2) from ⟨hr, fun b hb => Nat.le_trans HK2.out.size (hge b hb), HK2.out.trans hk3⟩)
  have HGE := Lib.hid hge
  have HR3 := Lib.hid (HR2.out.keep (hk3.mono fun _ _ _ => trivial))
  have HZ3 := Lib.hid (HZ2.out.keep hk3 fun _ _ => trivial)
  have hsz3 := hk3.size
  clear hr hge hk3 k0 HR2 HZ2
  go_wp2_with fail
  have hw := D.write w3 p F _ HN.out.d 0 A c (fun b => w.heap.size ≤ b ∧ b < w2.heap.size) l (by decide) (by decide) HR3.out (fun b hb hF => by have := HGE.out b hF; omega) (by have := Hm.out; omega) (by unfold maxLen; omega) HC3.out (Nat.zero_le _)
  rw [s1_write l (by have := Hm.out; omega), ← Hm.out] at hw
  refine hw.mono ?_
  rintro e w4 ⟨rfl, F4, hr, hs⟩
  have HN4 := Lib.hid (HN.out.step hr hs)
  have hnot : ∀ b, (Value.slice A m c).ownBlock = some b → ¬ F4.all b ∧ w.heap.size ≤ b := fun b hb => by
    have h1 := HBL.out b hb
    refine ⟨fun hF => ?_, h1.1⟩
    rcases hs.all b hF with h2 | h2
    · have := HGE.out b h2; omega
    · omega
  have HZ4 := Lib.hid (HZ3.out.keep hs.keeps fun b hb hF => by have := HGE.out b (.inl hF); have := HBL.out b hb; omega)
  have HNOT := Lib.hid hnot
  clear hr hs hw hnot HN HZ3 HGE HR3 HBL HC3 hsz3
  dsimp only
  have hsl := s1_len l (by have := Hm.out; omega)
  have HRD := Lib.hid (s1_read l)
  have HLO := Lib.hid (s1_loose l)
  generalize s1 l = s at HN4 HRD HLO
  have htk : (l ++ blank.drop l.length).take m = l := by rw [Hm.out, List.take_left]
  have htx : (txt l).size = m := by rw [txt_size, Hm.out]
  generalize l ++ blank.drop l.length = r at HRD hsl htk
  have HSL := Lib.hid hsl
  have HTK := Lib.hid htk
  clear hsl htk
  go_wp2_with fail
  go_loopw [6] (fun i wr => ∃ j : Nat, j ≤ m ∧ i = .int .i64 j ∧ RowZ wr w.heap.size 5 .u8 (.slice A m c) m ∧ One D w wr p F4 s) (fun i _ => m - (intOf i).toNat)
  case atStart => exact ⟨0, Nat.zero_le _, rfl, HZ4.out, HN4.out⟩
  case round =>
    clear HZ4 HN4
    obtain ⟨j, hj, rfl, hz, hN⟩ := hrel
    have HZ := Lib.hid hz
    have HN := Lib.hid hN
    clear hz hN
    by_cases hjm : j < m
    · obtain ⟨g, rfl⟩ := HZ.out.form (by omega)
      obtain ⟨z, hcz⟩ := HZ.out.at_ hjm
      have hfz := HZ.out.frozen j
      have HG := Lib.hid (HNOT.out g rfl)
      have hjm' : (j : Int) < (m : Int) := by omega
      go_wp2_with fail
      go_roundw
      case rel => exact ⟨j + 1, by omega, by go_num, HZ.out.store j _, store_one HN.out HG.out.2 HG.out.1 j _⟩
      case measure => simp [intOf]; omega
    · have hjm' : ¬ (j : Int) < (m : Int) := by omega
      clear HZ
      go_wp2_with fail
      refine (D.read _ p F4 s HN.out.d 0 (by decide) (by decide)).mono ?_
      rintro e w5 ⟨v, rfl, ho, hk5⟩
      rw [HRD.out] at ho
      obtain ⟨gx, cx, rfl, hgx, -⟩ := World.ownsRow.form ho (by rw [HSL.out]; decide)
      have hrx := own_row ho
      rw [HSL.out]
      have hrm := own_room ho
      rw [HSL.out] at hrm
      have hxz := rowZ_bytes ho
      rw [HSL.out] at hxz
      have k1 : (convert 28 9 (.slice (some ⟨gx, 0, none⟩) m cx)).run Try.prog w5 = .ok (.string (txt l)) w5 := by
        have := bcells_take hrx m
        rw [HTK.out] at this
        exact this.to_string Try.underlying28 Try.underlying5 Try.underlying9 _ _ Hm.out
      have hlx := D.lt HN.out.d
      have HGX := Lib.hid (show ¬ F4.all gx from fun hF => by have := hlx gx hF; omega)
      have hgw : w.heap.size ≤ gx := Nat.le_trans HN.out.kp.size hgx
      have HN5 := Lib.hid (HN.out.keep hk5)
      have HX5 := Lib.hid hxz
      have hr1 := hrm.1
      have hr2 := hrm.2
      unfold maxLen at hr2
      clear ho hk5 hrx hrm hxz hlx hgx HN
      generalize s.readE 0 = ye
      go_wp2_with fail
      go_loopw [9] (fun i wr => ∃ j : Nat, j ≤ 64 ∧ i = .int .i64 j ∧ (∃ base, RowZ wr base 5 .u8 (.slice (some ⟨gx, 0, none⟩) 64 cx) 64) ∧ One D w wr p F4 s) (fun i _ => 64 - (intOf i).toNat)
      case atStart => exact ⟨0, Nat.zero_le _, rfl, ⟨_, HX5.out⟩, HN5.out⟩
      case round =>
        clear HX5 HN5
        obtain ⟨j, hj, rfl, ⟨base, hz⟩, hN⟩ := hrel
        have HZ := Lib.hid hz
        have HN := Lib.hid hN
        clear hz hN
        by_cases hj6 : j < 64
        · obtain ⟨z, hcz⟩ := HZ.out.at_ hj6
          have hfz := HZ.out.frozen j
          have hj6' : (j : Int) < 64 := by omega
          go_wp2_with fail
          go_roundw
          case rel => exact ⟨j + 1, by omega, by go_num, ⟨base, HZ.out.store j _⟩, store_one HN.out hgw HGX.out j _⟩
          case measure => simp [intOf]; omega
        · have hj6' : ¬ (j : Int) < 64 := by omega
          clear HZ
          go_wp2_with fail
          refine (D.loose _ p F4 s HN.out.d).mono ?_
          rintro e w6 ⟨v, rfl, ho, hk6⟩
          rw [HLO.out] at ho
          obtain ⟨gl, cl, rfl, hgl, -⟩ := World.ownsRow.form ho (by decide)
          have hlz := rowZ_nats ho
          have hlx := D.lt HN.out.d
          have HGL := Lib.hid (show ¬ F4.all gl from fun hF => by have := hlx gl hF; omega)
          have hgw2 : w.heap.size ≤ gl := Nat.le_trans HN.out.kp.size hgl
          have HN6 := Lib.hid (HN.out.keep hk6)
          have HL6 := Lib.hid hlz
          clear ho hk6 hlz hlx hgl HN
          simp only [List.length_cons, List.length_nil] at HL6 ⊢
          go_wp2_with fail
          go_loopw [11] (fun i wr => ∃ j : Nat, j ≤ 1 ∧ i = .int .i64 j ∧ (∃ base, RowZ wr base 3 .i64 (.slice (some ⟨gl, 0, none⟩) 1 cl) 1) ∧ One D w wr p F4 s) (fun i _ => 1 - (intOf i).toNat)
          case atStart => exact ⟨0, Nat.zero_le _, rfl, ⟨_, HL6.out⟩, HN6.out⟩
          case round =>
            clear HL6 HN6
            obtain ⟨j, hj, rfl, ⟨base, hz⟩, hN⟩ := hrel
            have HZ := Lib.hid hz
            have HN := Lib.hid hN
            clear hz hN
            by_cases hj1 : j < 1
            · obtain ⟨z, hcz⟩ := HZ.out.at_ hj1
              have hfz := HZ.out.frozen j
              have hj1' : (j : Int) < 1 := by omega
              go_wp2_with fail
              go_roundw
              case rel => exact ⟨j + 1, by omega, by go_num, ⟨base, HZ.out.store j _⟩, store_one HN.out hgw2 HGL.out j _⟩
              case measure => simp [intOf]; omega
            · have hj1' : ¬ (j : Int) < 1 := by omega
              clear HZ
              go_wp2_with fail
              refine (D.read _ p F4 s HN.out.d 0 (by decide) (by decide)).mono ?_
              rintro e w7 ⟨v, rfl, ho, hk7⟩
              rw [HRD.out] at ho
              obtain ⟨gy, cy, rfl, -, -⟩ := World.ownsRow.form ho (by rw [HSL.out]; decide)
              have hry := own_row ho
              rw [HSL.out]
              have hrm := own_room ho
              rw [HSL.out] at hrm
              have hry1 := hrm.1
              have hry2 := hrm.2
              unfold maxLen at hry2
              have HN7 := Lib.hid (HN.out.keep hk7)
              have HRY := Lib.hid hry
              clear ho hk7 hrm hry HN
              generalize s.readE 0 = yf
              go_wp2_with fail
              refine (D.loose _ p F4 s HN7.out.d).mono ?_
              rintro e w8 ⟨v, rfl, ho, hk8⟩
              rw [HLO.out] at ho
              obtain ⟨gm, cm, rfl, -, -⟩ := World.ownsRow.form ho (by decide)
              have hcm := World.ownsRow.cellAt ho 0 (by decide)
              have HN8 := Lib.hid (HN7.out.keep hk8)
              have k2 : (convert 28 9 (.slice (some ⟨gy, 0, none⟩) m cy)).run Try.prog w8 = .ok (.string (txt l)) w8 := by
                have := bcells_take (HRY.out.keep (hk8.mono fun _ _ _ => trivial)) m
                rw [HTK.out] at this
                exact this.to_string Try.underlying28 Try.underlying5 Try.underlying9 _ _ Hm.out
              have hcm' : w8.cell? ⟨gm, 0, none⟩ = some (.int .i64 0) := hcm
              clear ho hk8 hcm HRY HN7
              simp only [List.length_cons, List.length_nil]
              go_wp2_with fail
              go_ret
              exact ⟨rfl, HN8.out.kp.below⟩
end Go.Proofs.Ytgmgojpkjchmcaa.devOwn
