/-
  THE WALK OF SuperTorn, whatever the program's slots are made of.
-/
import Derived.Test.YtajapklpdfikoaaDoorSuperBegun
import Derived.Test.YtajapklpdfikoaaDoorSuperLocs
import Derived.Test.YtajapklpdfikoaaDoorShort
import Derived.Outline
namespace Go.Proofs.YtajapklpdfikoaaDoor.superTorn
open Go Go.RowKit Go.Joins

def VTA (o q : Nat) (A : Option Addr) (ac : Nat) (a : List UInt8) (B : Option Addr) (bc : Nat) (b : List UInt8) : Nat → World → Value → Prop
  | 0 => IsV (.int .i64 0)
  | 1 => IsV (.bool true)
  | 2 => IsV (.bool true)
  | 3 => IsV (.pointer (some ⟨o, 0, none⟩))
  | 4 => TextV a
  | 5 => IsV (.string (txt a))
  | 6 => IsV (.slice A a.length ac)
  | 7 => IsV (.string (txt a))
  | 8 => IsV (.bool true)
  | 9 => IsV (.bool true)
  | 10 => IsV (.pointer (some ⟨o, 0, none⟩))
  | 11 => IsV (.int .i64 1)
  | 12 => IsV (.bool true)
  | 13 => IsV (.bool true)
  | 14 => IsV (.bool true)
  | 15 => IsV undef
  | 16 => IsV undef
  | 17 => IsV undef
  | 18 => IsV undef
  | 19 => IsV undef
  | 20 => IsV undef
  | 21 => IsV undef
  | 22 => IsV undef
  | 23 => IsV undef
  | 24 => IsV undef
  | 25 => IsV undef
  | 26 => IsV (.bool true)
  | 27 => IsV (.bool true)
  | 28 => IsV (.bool true)
  | 29 => IsV (.pointer (some ⟨q, 0, none⟩))
  | 30 => TextV a
  | 31 => IsV (.string (txt a))
  | 32 => IsV (.slice A a.length ac)
  | 33 => IsV (.string (txt a))
  | 34 => IsV (.bool true)
  | 35 => IsV (.bool true)
  | 36 => IsV (.bool true)
  | _ => fun _ _ => True
def GTA : Nat → Option Bool
  | 2 => some true
  | 9 => some true
  | 14 => some true
  | 28 => some true
  | _ => none
theorem VTA_mono {o q : Nat} {A : Option Addr} {ac : Nat} {a : List UInt8} {B : Option Addr} {bc : Nat} {b : List UInt8} (i : Nat) (w w' : World) (x : Value) (h : Kp w w') (hv : VTA o q A ac a B bc b i w x) : VTA o q A ac a B bc b i w' x := by
  match i, hv with
  | 0, hv => exact hv
  | 1, hv => exact hv
  | 2, hv => exact hv
  | 3, hv => exact hv
  | 4, hv => exact TextV.mono h hv
  | 5, hv => exact hv
  | 6, hv => exact hv
  | 7, hv => exact hv
  | 8, hv => exact hv
  | 9, hv => exact hv
  | 10, hv => exact hv
  | 11, hv => exact hv
  | 12, hv => exact hv
  | 13, hv => exact hv
  | 14, hv => exact hv
  | 15, hv => exact hv
  | 16, hv => exact hv
  | 17, hv => exact hv
  | 18, hv => exact hv
  | 19, hv => exact hv
  | 20, hv => exact hv
  | 21, hv => exact hv
  | 22, hv => exact hv
  | 23, hv => exact hv
  | 24, hv => exact hv
  | 25, hv => exact hv
  | 26, hv => exact hv
  | 27, hv => exact hv
  | 28, hv => exact hv
  | 29, hv => exact hv
  | 30, hv => exact TextV.mono h hv
  | 31, hv => exact hv
  | 32, hv => exact hv
  | 33, hv => exact hv
  | 34, hv => exact hv
  | 35, hv => exact hv
  | 36, hv => exact hv
  | n + 37, _ => trivial
theorem GTA_is {o q : Nat} {A : Option Addr} {ac : Nat} {a : List UInt8} {B : Option Addr} {bc : Nat} {b : List UInt8} (g : Nat) (c : Bool) (h : GTA g = some c) (w : World) (x : Value) (hv : VTA o q A ac a B bc b g w x) : x = .bool c := by
  unfold GTA at h
  split at h
  all_goals first | (cases h; exact hv) | cases h
theorem UTA_is {o q : Nat} {A : Option Addr} {ac : Nat} {a : List UInt8} {B : Option Addr} {bc : Nat} {b : List UInt8} (i : Nat) (hi : i ∈ ([15, 16, 17, 18, 19, 20, 21, 22, 23, 24, 25] : List Nat)) : VTA o q A ac a B bc b i = IsV undef := by
  simp only [List.mem_cons, List.not_mem_nil, or_false] at hi
  rcases hi with rfl | rfl | rfl | rfl | rfl | rfl | rfl | rfl | rfl | rfl | rfl
  all_goals rfl
def VTB (o q : Nat) (A : Option Addr) (ac : Nat) (a : List UInt8) (B : Option Addr) (bc : Nat) (b : List UInt8) : Nat → World → Value → Prop
  | 0 => IsV (.int .i64 0)
  | 1 => IsV (.bool true)
  | 2 => IsV (.bool true)
  | 3 => IsV (.pointer (some ⟨o, 0, none⟩))
  | 4 => TextV b
  | 5 => IsV (.string (txt b))
  | 6 => IsV (.slice A a.length ac)
  | 7 => IsV (.string (txt a))
  | 8 => IsV (.bool false)
  | 9 => IsV (.bool false)
  | 10 => IsV undef
  | 11 => IsV undef
  | 12 => IsV undef
  | 13 => IsV (.bool false)
  | 14 => IsV (.bool false)
  | 15 => IsV (.pointer (some ⟨o, 0, none⟩))
  | 16 => TextV b
  | 17 => IsV (.string (txt b))
  | 18 => IsV (.slice B b.length bc)
  | 19 => IsV (.string (txt b))
  | 20 => IsV (.bool true)
  | 21 => IsV (.bool true)
  | 22 => IsV (.pointer (some ⟨o, 0, none⟩))
  | 23 => IsV (.int .i64 2)
  | 24 => IsV (.bool true)
  | 25 => IsV (.bool true)
  | 26 => IsV (.bool true)
  | 27 => IsV (.bool true)
  | 28 => IsV (.bool true)
  | 29 => IsV (.pointer (some ⟨q, 0, none⟩))
  | 30 => TextV a
  | 31 => IsV (.string (txt a))
  | 32 => IsV (.slice A a.length ac)
  | 33 => IsV (.string (txt a))
  | 34 => IsV (.bool true)
  | 35 => IsV (.bool true)
  | 36 => IsV (.bool true)
  | _ => fun _ _ => True
def GTB : Nat → Option Bool
  | 2 => some true
  | 9 => some false
  | 14 => some false
  | 21 => some true
  | 28 => some true
  | _ => none
theorem VTB_mono {o q : Nat} {A : Option Addr} {ac : Nat} {a : List UInt8} {B : Option Addr} {bc : Nat} {b : List UInt8} (i : Nat) (w w' : World) (x : Value) (h : Kp w w') (hv : VTB o q A ac a B bc b i w x) : VTB o q A ac a B bc b i w' x := by
  match i, hv with
  | 0, hv => exact hv
  | 1, hv => exact hv
  | 2, hv => exact hv
  | 3, hv => exact hv
  | 4, hv => exact TextV.mono h hv
  | 5, hv => exact hv
  | 6, hv => exact hv
  | 7, hv => exact hv
  | 8, hv => exact hv
  | 9, hv => exact hv
  | 10, hv => exact hv
  | 11, hv => exact hv
  | 12, hv => exact hv
  | 13, hv => exact hv
  | 14, hv => exact hv
  | 15, hv => exact hv
  | 16, hv => exact TextV.mono h hv
  | 17, hv => exact hv
  | 18, hv => exact hv
  | 19, hv => exact hv
  | 20, hv => exact hv
  | 21, hv => exact hv
  | 22, hv => exact hv
  | 23, hv => exact hv
  | 24, hv => exact hv
  | 25, hv => exact hv
  | 26, hv => exact hv
  | 27, hv => exact hv
  | 28, hv => exact hv
  | 29, hv => exact hv
  | 30, hv => exact TextV.mono h hv
  | 31, hv => exact hv
  | 32, hv => exact hv
  | 33, hv => exact hv
  | 34, hv => exact hv
  | 35, hv => exact hv
  | 36, hv => exact hv
  | n + 37, _ => trivial
theorem GTB_is {o q : Nat} {A : Option Addr} {ac : Nat} {a : List UInt8} {B : Option Addr} {bc : Nat} {b : List UInt8} (g : Nat) (c : Bool) (h : GTB g = some c) (w : World) (x : Value) (hv : VTB o q A ac a B bc b g w x) : x = .bool c := by
  unfold GTB at h
  split at h
  all_goals first | (cases h; exact hv) | cases h
theorem UTB_is {o q : Nat} {A : Option Addr} {ac : Nat} {a : List UInt8} {B : Option Addr} {bc : Nat} {b : List UInt8} (i : Nat) (hi : i ∈ ([10, 11, 12] : List Nat)) : VTB o q A ac a B bc b i = IsV undef := by
  simp only [List.mem_cons, List.not_mem_nil, or_false] at hi
  rcases hi with rfl | rfl | rfl
  all_goals rfl
def VTC (o q : Nat) (A : Option Addr) (ac : Nat) (a : List UInt8) (B : Option Addr) (bc : Nat) (b : List UInt8) : Nat → World → Value → Prop
  | 0 => IsV (.int .i64 0)
  | 1 => IsV (.bool true)
  | 2 => IsV (.bool true)
  | 3 => IsV (.pointer (some ⟨o, 0, none⟩))
  | 4 => TextV b
  | 5 => IsV (.string (txt b))
  | 6 => IsV (.slice A a.length ac)
  | 7 => IsV (.string (txt a))
  | 8 => IsV (.bool true)
  | 9 => IsV (.bool true)
  | 10 => IsV (.pointer (some ⟨o, 0, none⟩))
  | 11 => IsV (.int .i64 2)
  | 12 => IsV (.bool false)
  | 13 => IsV (.bool false)
  | 14 => IsV (.bool false)
  | 15 => IsV (.pointer (some ⟨o, 0, none⟩))
  | 16 => TextV b
  | 17 => IsV (.string (txt b))
  | 18 => IsV (.slice B b.length bc)
  | 19 => IsV (.string (txt b))
  | 20 => IsV (.bool true)
  | 21 => IsV (.bool true)
  | 22 => IsV (.pointer (some ⟨o, 0, none⟩))
  | 23 => IsV (.int .i64 2)
  | 24 => IsV (.bool true)
  | 25 => IsV (.bool true)
  | 26 => IsV (.bool true)
  | 27 => IsV (.bool true)
  | 28 => IsV (.bool true)
  | 29 => IsV (.pointer (some ⟨q, 0, none⟩))
  | 30 => TextV a
  | 31 => IsV (.string (txt a))
  | 32 => IsV (.slice A a.length ac)
  | 33 => IsV (.string (txt a))
  | 34 => IsV (.bool true)
  | 35 => IsV (.bool true)
  | 36 => IsV (.bool true)
  | _ => fun _ _ => True
def GTC : Nat → Option Bool
  | 2 => some true
  | 9 => some true
  | 14 => some false
  | 21 => some true
  | 28 => some true
  | _ => none
theorem VTC_mono {o q : Nat} {A : Option Addr} {ac : Nat} {a : List UInt8} {B : Option Addr} {bc : Nat} {b : List UInt8} (i : Nat) (w w' : World) (x : Value) (h : Kp w w') (hv : VTC o q A ac a B bc b i w x) : VTC o q A ac a B bc b i w' x := by
  match i, hv with
  | 0, hv => exact hv
  | 1, hv => exact hv
  | 2, hv => exact hv
  | 3, hv => exact hv
  | 4, hv => exact TextV.mono h hv
  | 5, hv => exact hv
  | 6, hv => exact hv
  | 7, hv => exact hv
  | 8, hv => exact hv
  | 9, hv => exact hv
  | 10, hv => exact hv
  | 11, hv => exact hv
  | 12, hv => exact hv
  | 13, hv => exact hv
  | 14, hv => exact hv
  | 15, hv => exact hv
  | 16, hv => exact TextV.mono h hv
  | 17, hv => exact hv
  | 18, hv => exact hv
  | 19, hv => exact hv
  | 20, hv => exact hv
  | 21, hv => exact hv
  | 22, hv => exact hv
  | 23, hv => exact hv
  | 24, hv => exact hv
  | 25, hv => exact hv
  | 26, hv => exact hv
  | 27, hv => exact hv
  | 28, hv => exact hv
  | 29, hv => exact hv
  | 30, hv => exact TextV.mono h hv
  | 31, hv => exact hv
  | 32, hv => exact hv
  | 33, hv => exact hv
  | 34, hv => exact hv
  | 35, hv => exact hv
  | 36, hv => exact hv
  | n + 37, _ => trivial
theorem GTC_is {o q : Nat} {A : Option Addr} {ac : Nat} {a : List UInt8} {B : Option Addr} {bc : Nat} {b : List UInt8} (g : Nat) (c : Bool) (h : GTC g = some c) (w : World) (x : Value) (hv : VTC o q A ac a B bc b g w x) : x = .bool c := by
  unfold GTC at h
  split at h
  all_goals first | (cases h; exact hv) | cases h
theorem UTC_is {o q : Nat} {A : Option Addr} {ac : Nat} {a : List UInt8} {B : Option Addr} {bc : Nat} {b : List UInt8} (i : Nat) (hi : i ∈ ([] : List Nat)) : VTC o q A ac a B bc b i = IsV undef := by
  cases hi

theorem bits_any (K : Option Addr) (kc : Nat) (l : List Bool) (w : World) (h1 : l.length ≤ kc) (h2 : kc ≤ maxLen) (h3 : K = none → kc = 0) :
    Calls Tryd.prog 23 #[.slice K l.length kc] w fun e w' => e = .returned (.slice K (l.take 10).length kc) ∧ w = w' := by
  have hl : (l.take 10).length = min l.length 10 := by rw [List.length_take]; omega
  rw [hl]
  unfold maxLen at h2
  by_cases h : 10 < l.length
  · have h' : (10 : Int) < (l.length : Int) := by omega
    have hm : min l.length 10 = 10 := by omega
    rw [hm]
    rcases K with _ | ad
    · have := h3 rfl; omega
    · clear hl hm h3
      go_enter Tryd.func23, Tryd.ntmps23
      go_wp2
      go_ret
      exact ⟨rfl, rfl⟩
  · have h' : ¬ (10 : Int) < (l.length : Int) := by omega
    have hm : min l.length 10 = l.length := by omega
    rw [hm]
    clear hl hm h3
    go_enter Tryd.func23, Tryd.ntmps23
    go_wp2
    go_ret
    exact ⟨rfl, rfl⟩

/-- The device behind the first j sectors. -/
def sdAt (e1 e2 : List UInt8) (n j : Nat) : SDev := if j < 2 then SDev.still [e1, blank] n else (SDev.still [e1, blank] n).write 1 e2
theorem torn_crash (e1 e2 : List UInt8) (n : Nat) (h : e2.length = 64) (keep : List Bool) : (((SDev.still [e1, blank] n).write 1 e2).crash keep).now = [e1, if keep.getD 0 false = true then e2 else blank] := by
  have ho : over e2 blank = e2 := by unfold over; rw [List.drop_of_length_le (by rw [h]; decide), List.append_nil]
  have hl : ((SDev.still [e1, blank] n).write 1 e2).loose = [1] := by
    show trues [false, true] = [1]
    decide
  have hn : ((SDev.still [e1, blank] n).write 1 e2).now = [e1, e2] := by
    show [e1, blank].set 1 (over e2 ([e1, blank].getD 1 [])) = _
    show [e1, over e2 blank] = _
    rw [ho]
  show keptN _ keep (min ((SDev.still [e1, blank] n).write 1 e2).loose.length keep.length) = _
  rw [← kept_min, hl]
  show keptN _ keep 1 = _
  rw [keptN_next, keptN_zero, hl, hn]
  cases hk : keep.getD 0 false
  · simp; rfl
  · simp; rfl

set_option maxRecDepth 100000 in
set_option maxHeartbeats 4000000 in
theorem walk (S : SupOK) (w : World) (hT : S.T w) (PA : Option Addr) (PAc : Nat) (la : List UInt8) (a1 : la.length ≤ PAc) (a2 : PAc ≤ maxLen) (a3 : PA = none → PAc = 0) (a4 : Row w PA (fun b => b < w.heap.size) (bcells la))
    (PB : Option Addr) (PBc : Nat) (lb : List UInt8) (b1 : lb.length ≤ PBc) (b2 : PBc ≤ maxLen) (b3 : PB = none → PBc = 0) (b4 : Row w PB (fun b => b < w.heap.size) (bcells lb))
    (K : Option Addr) (kc : Nat) (kl : List Bool) (k1 : kl.length ≤ kc) (k2 : kc ≤ maxLen) (k3 : K = none → kc = 0) (k4 : Row w K (fun b => b < w.heap.size) (kl.map Value.bool)) :
    Calls Tryd.prog 4 #[.slice PA la.length PAc, .slice PB lb.length PBc, .slice K kl.length kc] w fun e w' => e = .returned (.bool true) ∧ Below w.heap.size w w' := by
  have HT := Lib.hid hT
  have f3 := Lib.hid a3
  have g3 := Lib.hid b3
  have HK3 := Lib.hid k3
  have f4 := Lib.hid (bcells_take a4 40)
  have g4 := Lib.hid (bcells_take b4 40)
  have HKR := Lib.hid (show Row w K (fun b => b < w.heap.size) ((kl.take 10).map Value.bool) by rw [List.map_take]; exact k4.take)
  have ftl : (la.take 40).length = min la.length 40 := by rw [List.length_take]; omega
  have gtl : (lb.take 40).length = min lb.length 40 := by rw [List.length_take]; omega
  clear hT a3 b3 a4 b4 k3 k4
  go_enter Tryd.func4, Tryd.ntmps4
  go_wp2_with fail
  refine (begun5 S w HT.out).mono ?_
  rintro e w1 ⟨rfl, hk1⟩
  have HK1 := Lib.hid hk1
  clear hk1
  go_wp2_with fail
  refine (short_at PA la.length PAc 40 40 (la.take 40).length rfl ftl _ a1 a2 f3.out (by decide)).mono ?_
  rintro e w' ⟨rfl, rfl⟩
  have f5 : (la.take 40).length ≤ PAc := by omega
  have f6 : (la.take 40).length ≤ 40 := by omega
  generalize la.take 40 = a at f4 f5 f6 ⊢
  clear ftl
  go_wp2_with fail
  refine (short_at PB lb.length PBc 40 40 (lb.take 40).length rfl gtl _ b1 b2 g3.out (by decide)).mono ?_
  rintro e w' ⟨rfl, rfl⟩
  have g5 : (lb.take 40).length ≤ PBc := by omega
  have g6 : (lb.take 40).length ≤ 40 := by omega
  generalize lb.take 40 = b at g4 g5 g6 ⊢
  clear gtl
  go_wp2_with fail
  refine (bits_any K kc kl _ k1 k2 HK3.out).mono ?_
  rintro e w' ⟨rfl, rfl⟩
  have hkt : (kl.take 10).length ≤ 10 := by rw [List.length_take]; omega
  generalize kl.take 10 = ks at HKR hkt ⊢
  unfold maxLen at a2 b2 k2
  clear a1 b1 k1
  go_wp2_with fail
  refine (dv_new HK1.out 2 (by decide) (by decide) 2 rfl).mono ?_
  rintro e w2 ⟨p, F, rfl, hd, -, -⟩
  have HD := Lib.hid hd
  clear hd HK1
  go_wp2_with fail
  refine (duo_make S HT.out HD.out 0 0 rfl PA PAc a _ rfl (by decide) ((row_new (Fs := F) f4.out HD.out.kp HD.out.gd HD.out.gd).mono fun b _ hb => hb.1) f5 (by unfold maxLen; omega) f3.out f6 (by decide)).mono ?_
  rintro e w3 ⟨q, F3, Fs, n3, rfl, hd3, hn3, -, -⟩
  have hn3' : n3 ≤ 100 := hn3
  have HD3 := Lib.hid (show Duo S w w3 p q F3 Fs (SDev.still [S.enc 1 a, blank] n3) ⟨p, 0, 0, 1, a⟩ from hd3)
  have HT3 := Lib.hid (S.tk HT.out hd3.dv.kp)
  have HRA3 := Lib.hid (show Row w3 PA (fun b => b < w3.heap.size) (bcells a) from (f4.out.keep (hd3.dv.kp.mono fun _ _ _ => trivial)).mono fun b hb _ => hb)
  have HRB3 := Lib.hid (show Row w3 PB (fun b => b < w3.heap.size) (bcells b) from (g4.out.keep (hd3.dv.kp.mono fun _ _ _ => trivial)).mono fun b hb _ => hb)
  clear hd3 hn3 HD
  go_wp2_with fail
  refine (dv_new (Keeps.refl _ w3) 2 (by decide) (by decide) 2 rfl).mono ?_
  rintro e w4 ⟨p2, G, rfl, hd, -, -⟩
  have HX := Lib.hid hd
  clear hd
  go_wp2_with fail
  refine (duo_make S HT3.out HX.out 0 0 rfl PA PAc a _ rfl (by decide) ((row_new (Fs := G) HRA3.out HX.out.kp HX.out.gd HX.out.gd).mono fun b _ hb => hb.1) f5 (by unfold maxLen; omega) f3.out f6 (by decide)).mono ?_
  rintro e w5 ⟨q2, G5, Gs, n5, rfl, hd5, hn5, -, -⟩
  have hn5' : n5 ≤ 100 := hn5
  have HX5 := Lib.hid (show Duo S w3 w5 p2 q2 G5 Gs (SDev.still [S.enc 1 a, blank] n5) ⟨p2, 0, 0, 1, a⟩ from hd5)
  clear hd5 hn5 HX
  go_wp2_with fail
  refine (duo_save HT3.out HX5.out PB PBc b _ rfl (row_new HRB3.out HX5.out.dv.kp HX5.out.dv.gd HX5.out.gs) g5 (by unfold maxLen; omega) g3.out g6 (show n5 ≤ _ by omega) (show (1 : Nat) ≤ 549755813888 by decide)).mono ?_
  rintro e w6 ⟨rfl, G6, Gs6, n6, hd6, -, -, -, -, -, -⟩
  have HX6 := Lib.hid (show Dv w3 w6 p2 G6 (SDev.still [S.enc 1 a, S.enc 2 b] n6) from hd6.dv)
  have HD6 := Lib.hid (HD3.out.keep hd6.dv.kp)
  have hl1 := S.encLen 1 a f6 (by decide) (by decide)
  have hl2 := S.encLen 2 b g6 (by decide) (by decide)
  have HL2 := Lib.hid hl2
  have HL1 := Lib.hid hl1
  have HNB := Lib.hid (show S.enc 2 b ≠ blank from fun e => by
    have h1 := S.decEnc 2 b g6 (by decide) (by decide)
    rw [e, S.decBlank] at h1; cases h1)
  have HAP := Lib.hid (show Apart F3 G6 from ⟨fun b hb h2 => by have := hd6.dv.gd b h2; have := HD3.out.dv.d.lt b (.inl hb); omega, fun b hb h1 => by have := hd6.dv.gd b (.inl hb); have := HD3.out.dv.d.lt b h1; omega⟩)
  clear hd6 HX5 HD3 hl1 hl2
  go_wp2_with fail
  go_loopw [13] (fun i wr => ∃ (j : Nat) (F : Foot), j ≤ 2 ∧ i = .int .i64 j ∧ Duo S w wr p q F Fs (sdAt (S.enc 1 a) (S.enc 2 b) n3 j) ⟨p, 0, 0, 1, a⟩ ∧ DAt wr p2 G6 (SDev.still [S.enc 1 a, S.enc 2 b] n6) ∧ Apart F G6) (fun i _ => 2 - (intOf i).toNat)
  case atStart => exact ⟨0, F3, Nat.zero_le _, rfl, HD6.out, HX6.out.d, HAP.out⟩
  case round =>
    clear HD6 HX6 HAP
    obtain ⟨j, F, hj, rfl, hd, hx, hap⟩ := hrel
    have HD := Lib.hid hd
    have HX := Lib.hid hx
    have HAP := Lib.hid hap
    clear hd hx hap
    by_cases hl : j < 2
    · have hl' : (j : Int) < 2 := by omega
      have h01 : j = 0 ∨ j = 1 := by omega
      rcases h01 with rfl | rfl
      · have HLN := Lib.hid (show 64 = (S.enc 1 a).length ∧ 64 = (S.enc 1 a).length from ⟨HL1.out.symm, HL1.out.symm⟩)
        go_wp2_with fail
        refine (d_read HX.out 0 (show (0 : Nat) < 2 by decide)).mono ?_
        rintro e w7 ⟨g7, c7, rfl, hr7, hc7, hd7, hk7⟩
        have HR7 := Lib.hid (show Row w7 (some ⟨g7, 0, none⟩) (fun b => wr.heap.size ≤ b ∧ b < w7.heap.size) (bcells (S.enc 1 a)) from hr7)
        have HC7 := Lib.hid hc7
        have HK7 := Lib.hid hk7
        unfold maxLen at hc7
        clear hr7 hk7
        go_wp2_with fail
        refine (d_read (HD.out.dv.keep HK7.out).d 0 (show (0 : Nat) < 2 by decide)).mono ?_
        rintro e w8 ⟨g8, c8, rfl, hr8, hc8, -, hk8⟩
        have HD8 := Lib.hid ((HD.out.keep HK7.out).keep hk8)
        have HX8 := Lib.hid (HX.out.keep ((HK7.out.trans hk8).mono fun _ _ _ => trivial))
        have HR8 := Lib.hid ((HR7.out.keep (hk8.mono fun _ _ _ => trivial)))
        have cv1 : (convert 31 9 (.slice (some ⟨g7, 0, none⟩) 64 c7)).run Tryd.prog w8 = .ok (.string (txt (S.enc 1 a))) w8 := HR8.out.to_string Tryd.underlying31 Tryd.underlying5 Tryd.underlying9 64 c7 HLN.out.1
        have cv2 : (convert 31 9 (.slice (some ⟨g8, 0, none⟩) 64 c8)).run Tryd.prog w8 = .ok (.string (txt (S.enc 1 a))) w8 := (show Row w8 (some ⟨g8, 0, none⟩) _ (bcells (S.enc 1 a)) from hr8).to_string Tryd.underlying31 Tryd.underlying5 Tryd.underlying9 64 c8 HLN.out.2
        have hlt7 := hk8.size
        have hsz7 := HK7.out.size
        unfold maxLen at hc8
        clear hr8 hk8 HR7
        go_wp2_with fail
        go_roundw
        case rel => exact ⟨1, F, by omega, by go_num, HD8.out, HX8.out, HAP.out⟩
        case measure => simp [intOf]
      · have HLN := Lib.hid (show 64 = (S.enc 2 b).length ∧ 64 = blank.length from ⟨HL2.out.symm, rfl⟩)
        have hne1 : ((txt (S.enc 2 b)).toList == (txt blank).toList) = false := txt_ne HNB.out
        have hne2 : ((txt (S.enc 2 b)).toList != (txt blank).toList) = true := by unfold bne; rw [hne1]; rfl
        go_wp2_with fail
        refine (d_read HX.out 1 (show (1 : Nat) < 2 by decide)).mono ?_
        rintro e w7 ⟨g7, c7, rfl, hr7, hc7, hd7, hk7⟩
        have HR7 := Lib.hid (show Row w7 (some ⟨g7, 0, none⟩) (fun b => wr.heap.size ≤ b ∧ b < w7.heap.size) (bcells (S.enc 2 b)) from hr7)
        have HC7 := Lib.hid hc7
        have HK7 := Lib.hid hk7
        unfold maxLen at hc7
        clear hr7 hk7
        go_wp2_with fail
        refine (d_read (HD.out.dv.keep HK7.out).d 1 (show (1 : Nat) < 2 by decide)).mono ?_
        rintro e w8 ⟨g8, c8, rfl, hr8, hc8, -, hk8⟩
        have HD8 := Lib.hid ((HD.out.keep HK7.out).keep hk8)
        have HX8 := Lib.hid (HX.out.keep ((HK7.out.trans hk8).mono fun _ _ _ => trivial))
        have HR8 := Lib.hid ((HR7.out.keep (hk8.mono fun _ _ _ => trivial)))
        have cv1 : (convert 31 9 (.slice (some ⟨g7, 0, none⟩) 64 c7)).run Tryd.prog w8 = .ok (.string (txt (S.enc 2 b))) w8 := HR8.out.to_string Tryd.underlying31 Tryd.underlying5 Tryd.underlying9 64 c7 HLN.out.1
        have cv2 : (convert 31 9 (.slice (some ⟨g8, 0, none⟩) 64 c8)).run Tryd.prog w8 = .ok (.string (txt (blank))) w8 := (show Row w8 (some ⟨g8, 0, none⟩) _ (bcells (blank)) from hr8).to_string Tryd.underlying31 Tryd.underlying5 Tryd.underlying9 64 c8 HLN.out.2
        have hlt7 := hk8.size
        have hsz7 := HK7.out.size
        unfold maxLen at hc8
        clear hr8 hk8 HR7
        have hw := dv_write64 HD8.out.dv 1 (some ⟨g7, 0, none⟩) c7 (S.enc 2 b) 64 HL2.out.symm HL2.out (show (1 : Nat) < 2 by decide) (HR8.out.mono fun b _ hb hf => by have := HD.out.dv.d.lt b hf; have := hb.1; omega) (show n3 ≤ _ by omega)
        have HW := Lib.hid hw
        clear hw
        go_wp2_with fail
        refine HW.out.mono ?_
        rintro e w9 ⟨rfl, F9, hd9, e1, -, hst⟩
        have HD9 := Lib.hid (show Duo S w w9 p q F9 Fs (sdAt (S.enc 1 a) (S.enc 2 b) n3 2) ⟨p, 0, 0, 1, a⟩ from HD8.out.other hd9 hst rfl rfl)
        have HX9 := Lib.hid (HX8.out.keep (hst.other HAP.out))
        have HA9 := Lib.hid (hst.apart HAP.out HX8.out.lt)
        clear hd9 e1 hst HW
        go_wp2_with fail
        go_roundw
        case rel => exact ⟨2, F9, by omega, by go_num, HD9.out, HX9.out, HA9.out⟩
        case measure => simp [intOf]
    · obtain rfl : j = 2 := by omega
      have hl' : ¬ ((2 : Nat) : Int) < 2 := by omega
      go_wp2_with fail
      refine (dv_crash HD.out.dv K kc (fun b => b < w.heap.size) ks ks.length rfl (HKR.out.keep (HD.out.dv.kp.mono fun _ _ _ => trivial)) (by unfold maxLen; omega)).mono ?_
      rintro e w7 ⟨pc, Fc, rfl, hdc, hk7⟩
      have hnow := torn_crash (S.enc 1 a) (S.enc 2 b) n3 HL2.out ks
      have HC := Lib.hid hdc
      have HN := Lib.hid (show ((sdAt (S.enc 1 a) (S.enc 2 b) n3 2).crash ks).now = [S.enc 1 a, if ks.getD 0 false = true then S.enc 2 b else blank] from hnow)
      have HD7 := Lib.hid (HD.out.keep hk7)
      clear hdc hk7 hnow HX HAP HD
      generalize (sdAt (S.enc 1 a) (S.enc 2 b) n3 2).crash ks = sc at HC HN
      cases hkv : ks.getD 0 false
      · have hn : sc.now = [S.enc 1 a, blank] := by rw [HN.out, hkv]; rfl
        have ho := duo_open S HT.out HC.out 0 0 1 a 0 rfl (by rw [hn]; exact Nat.le_refl _) (by decide) f6 (by decide) (by rw [hn]; rfl) (fun t' x' hx => by
          rw [hn] at hx
          have e : S.dec blank = some (t', x') := hx
          rw [S.decBlank] at e; cases e) (by decide)
        have HOp := Lib.hid ho
        clear hn ho hkv HN
        go_wp2_with fail
        refine HOp.out.mono ?_
        rintro e wz ⟨o, Fo, rfl, ho, -, hkz⟩
        have HO := Lib.hid ho
        have HD := Lib.hid (HD7.out.keep hkz)
        have HRA := Lib.hid (show Row wz PA (fun _ => True) (bcells a) from (f4.out.keep (ho.dv.kp.mono fun _ _ _ => trivial)).mono fun _ _ _ => trivial)
        have HRB := Lib.hid (show Row wz PB (fun _ => True) (bcells b) from (g4.out.keep (ho.dv.kp.mono fun _ _ _ => trivial)).mono fun _ _ _ => trivial)
        clear ho hkz HD7 HOp
        go_wp2_with fail
        refine wp_region_guard (R := Kp) (V := VTA o q PA PAc a PB PBc b) (w0 := wz) GTA (by kernel_rfl) (fun w => Keeps.refl _ w) (fun _ _ _ h k => h.trans k) VTA_mono (by kernel_rfl) GTA_is (unwanted_of [15, 16, 17, 18, 19, 20, 21, 22, 23, 24, 25] (by kernel_rfl) UTA_is) ((Keeps.refl _ wz).drew) (each_of ?_) ?_
        · refine ⟨?_, ?_, ?_, ?_, ?_, ?_, ?_, ?_, ?_, ?_, ?_, ?_, ?_, ?_, ?_, ?_, ?_, ?_, ?_, ?_, ?_, ?_, ?_, ?_, ?_, ?_, ?_, ?_, ?_, ?_, ?_, ?_, ?_, ?_, ?_, ?_, ?_, trivial⟩ <;> intro hw a1 w2 L
          · exact kp_move rfl (L.old 10 (by kernel_rfl))
          · exact kp_eqE rfl rfl (L.val 0 87 (by kernel_rfl) (by kernel_rfl)) rfl
          · exact kp_move rfl (L.val 1 88 (by kernel_rfl) (by kernel_rfl))
          · exact kp_move rfl (L.old 18 (by kernel_rfl))
          · exact kp_text HT.out (HO.out.keep L.rel) rfl (L.val 3 90 (by kernel_rfl) (by kernel_rfl))
          · exact kp_string rfl Tryd.underlying31 Tryd.underlying5 Tryd.underlying9 (L.val 4 91 (by kernel_rfl) (by kernel_rfl))
          · exact kp_move rfl (L.old 0 (by kernel_rfl))
          · exact kp_string rfl Tryd.underlying31 Tryd.underlying5 Tryd.underlying9 ⟨_, _, (L.val 6 93 (by kernel_rfl) (by kernel_rfl)), HRA.out.keep L.rel⟩
          · exact kp_eqS (txt_eq a) rfl (L.val 5 92 (by kernel_rfl) (by kernel_rfl)) (L.val 7 94 (by kernel_rfl) (by kernel_rfl))
          · exact kp_move rfl (L.val 8 95 (by kernel_rfl) (by kernel_rfl))
          · exact kp_move rfl (L.old 18 (by kernel_rfl))
          · exact kp_turn (HO.out.keep L.rel).su rfl (L.val 10 97 (by kernel_rfl) (by kernel_rfl))
          · exact kp_eqI rfl rfl (L.val 11 98 (by kernel_rfl) (by kernel_rfl)) rfl
          · exact kp_pick rfl (L.val 9 96 (by kernel_rfl) (by kernel_rfl)) (L.val 12 99 (by kernel_rfl) (by kernel_rfl))
          · exact kp_move rfl (L.val 13 100 (by kernel_rfl) (by kernel_rfl))
          · exact Bool.noConfusion (show false = true from hw)
          · exact Bool.noConfusion (show false = true from hw)
          · exact Bool.noConfusion (show false = true from hw)
          · exact Bool.noConfusion (show false = true from hw)
          · exact Bool.noConfusion (show false = true from hw)
          · exact Bool.noConfusion (show false = true from hw)
          · exact Bool.noConfusion (show false = true from hw)
          · exact Bool.noConfusion (show false = true from hw)
          · exact Bool.noConfusion (show false = true from hw)
          · exact Bool.noConfusion (show false = true from hw)
          · exact Bool.noConfusion (show false = true from hw)
          · exact kp_pick rfl (L.val 14 101 (by kernel_rfl) (by kernel_rfl)) rfl
          · exact kp_pick rfl (L.val 2 89 (by kernel_rfl) (by kernel_rfl)) (L.val 26 113 (by kernel_rfl) (by kernel_rfl))
          · exact kp_move rfl (L.val 27 114 (by kernel_rfl) (by kernel_rfl))
          · exact kp_move rfl (L.old 9 (by kernel_rfl))
          · exact kp_text HT.out (HD.out.keep L.rel) rfl (L.val 29 116 (by kernel_rfl) (by kernel_rfl))
          · exact kp_string rfl Tryd.underlying31 Tryd.underlying5 Tryd.underlying9 (L.val 30 117 (by kernel_rfl) (by kernel_rfl))
          · exact kp_move rfl (L.old 0 (by kernel_rfl))
          · exact kp_string rfl Tryd.underlying31 Tryd.underlying5 Tryd.underlying9 ⟨_, _, (L.val 32 119 (by kernel_rfl) (by kernel_rfl)), HRA.out.keep L.rel⟩
          · exact kp_eqS (txt_eq a) rfl (L.val 31 118 (by kernel_rfl) (by kernel_rfl)) (L.val 33 120 (by kernel_rfl) (by kernel_rfl))
          · exact kp_pick rfl (L.val 28 115 (by kernel_rfl) (by kernel_rfl)) (L.val 34 121 (by kernel_rfl) (by kernel_rfl))
          · exact kp_assign rfl (L.val 35 122 (by kernel_rfl) (by kernel_rfl))
        · intro vs w8 hw8 hlen hv
          obtain ⟨us, ws, rfl, hu, hws⟩ : ∃ us ws : List Value, vs = us ++ ws ∧ us.length = 18 ∧ ws.length = 19 := ⟨vs.take 18, vs.drop 18, (List.take_append_drop 18 vs).symm, by rw [List.length_take, hlen]; rfl, by rw [List.length_drop, hlen]; rfl⟩
          match us, hu, ws, hws with
          | [v0, v1, v2, v3, v4, v5, v6, v7, v8, v9, v10, v11, v12, v13, v14, v15, v16, v17], _, [v18, v19, v20, v21, v22, v23, v24, v25, v26, v27, v28, v29, v30, v31, v32, v33, v34, v35, v36], _ =>
            have e36 : v36 = .bool true := hv 36 6 (by kernel_rfl)
            clear hv
            subst e36
            have HE := Lib.hid (HD.out.dv.kp.trans hw8)
            simp only [List.cons_append, List.nil_append, putAll, List.map, Act.put, List.setIfInBounds_toArray, List.set_cons_succ, List.set_cons_zero, Exit.then]
            go_wp2
            go_ret
            exact ⟨rfl, HE.out.below⟩
      · have hn : sc.now = [S.enc 1 a, S.enc 2 b] := by rw [HN.out, hkv]; rfl
        have ho := duo_open S HT.out HC.out 0 1 2 b 0 rfl (by rw [hn]; exact Nat.le_refl _) (by decide) g6 (by decide) (by rw [hn]; rfl) (fun t' x' hx => by
          rw [hn] at hx
          have e : S.dec (S.enc 1 a) = some (t', x') := hx
          rw [S.decEnc 1 a f6 (by decide) (by decide)] at e
          injection e with e
          injection e with e
          omega) (by decide)
        have HOp := Lib.hid ho
        clear hn ho hkv HN
        go_wp2_with fail
        refine HOp.out.mono ?_
        rintro e wz ⟨o, Fo, rfl, ho, -, hkz⟩
        have HO := Lib.hid ho
        have HD := Lib.hid (HD7.out.keep hkz)
        have HRA := Lib.hid (show Row wz PA (fun _ => True) (bcells a) from (f4.out.keep (ho.dv.kp.mono fun _ _ _ => trivial)).mono fun _ _ _ => trivial)
        have HRB := Lib.hid (show Row wz PB (fun _ => True) (bcells b) from (g4.out.keep (ho.dv.kp.mono fun _ _ _ => trivial)).mono fun _ _ _ => trivial)
        clear ho hkz HD7 HOp
        go_wp2_with fail
        by_cases hab : b = a
        · have HEQ := Lib.hid hab
          clear hab
          refine wp_region_guard (R := Kp) (V := VTC o q PA PAc a PB PBc b) (w0 := wz) GTC (by kernel_rfl) (fun w => Keeps.refl _ w) (fun _ _ _ h k => h.trans k) VTC_mono (by kernel_rfl) GTC_is (unwanted_of [] (by kernel_rfl) UTC_is) ((Keeps.refl _ wz).drew) (each_of ?_) ?_
          · refine ⟨?_, ?_, ?_, ?_, ?_, ?_, ?_, ?_, ?_, ?_, ?_, ?_, ?_, ?_, ?_, ?_, ?_, ?_, ?_, ?_, ?_, ?_, ?_, ?_, ?_, ?_, ?_, ?_, ?_, ?_, ?_, ?_, ?_, ?_, ?_, ?_, ?_, trivial⟩ <;> intro hw a1 w2 L
            · exact kp_move rfl (L.old 10 (by kernel_rfl))
            · exact kp_eqE rfl rfl (L.val 0 87 (by kernel_rfl) (by kernel_rfl)) rfl
            · exact kp_move rfl (L.val 1 88 (by kernel_rfl) (by kernel_rfl))
            · exact kp_move rfl (L.old 18 (by kernel_rfl))
            · exact kp_text HT.out (HO.out.keep L.rel) rfl (L.val 3 90 (by kernel_rfl) (by kernel_rfl))
            · exact kp_string rfl Tryd.underlying31 Tryd.underlying5 Tryd.underlying9 (L.val 4 91 (by kernel_rfl) (by kernel_rfl))
            · exact kp_move rfl (L.old 0 (by kernel_rfl))
            · exact kp_string rfl Tryd.underlying31 Tryd.underlying5 Tryd.underlying9 ⟨_, _, (L.val 6 93 (by kernel_rfl) (by kernel_rfl)), HRA.out.keep L.rel⟩
            · exact kp_eqS (by rw [HEQ.out]; exact txt_eq _) rfl (L.val 5 92 (by kernel_rfl) (by kernel_rfl)) (L.val 7 94 (by kernel_rfl) (by kernel_rfl))
            · exact kp_move rfl (L.val 8 95 (by kernel_rfl) (by kernel_rfl))
            · exact kp_move rfl (L.old 18 (by kernel_rfl))
            · exact kp_turn (HO.out.keep L.rel).su rfl (L.val 10 97 (by kernel_rfl) (by kernel_rfl))
            · exact kp_eqI rfl rfl (L.val 11 98 (by kernel_rfl) (by kernel_rfl)) rfl
            · exact kp_pick rfl (L.val 9 96 (by kernel_rfl) (by kernel_rfl)) (L.val 12 99 (by kernel_rfl) (by kernel_rfl))
            · exact kp_move rfl (L.val 13 100 (by kernel_rfl) (by kernel_rfl))
            · exact kp_move rfl (L.old 18 (by kernel_rfl))
            · exact kp_text HT.out (HO.out.keep L.rel) rfl (L.val 15 102 (by kernel_rfl) (by kernel_rfl))
            · exact kp_string rfl Tryd.underlying31 Tryd.underlying5 Tryd.underlying9 (L.val 16 103 (by kernel_rfl) (by kernel_rfl))
            · exact kp_move rfl (L.old 1 (by kernel_rfl))
            · exact kp_string rfl Tryd.underlying31 Tryd.underlying5 Tryd.underlying9 ⟨_, _, (L.val 18 105 (by kernel_rfl) (by kernel_rfl)), HRB.out.keep L.rel⟩
            · exact kp_eqS (txt_eq b) rfl (L.val 17 104 (by kernel_rfl) (by kernel_rfl)) (L.val 19 106 (by kernel_rfl) (by kernel_rfl))
            · exact kp_move rfl (L.val 20 107 (by kernel_rfl) (by kernel_rfl))
            · exact kp_move rfl (L.old 18 (by kernel_rfl))
            · exact kp_turn (HO.out.keep L.rel).su rfl (L.val 22 109 (by kernel_rfl) (by kernel_rfl))
            · exact kp_eqI rfl rfl (L.val 23 110 (by kernel_rfl) (by kernel_rfl)) rfl
            · exact kp_pick rfl (L.val 21 108 (by kernel_rfl) (by kernel_rfl)) (L.val 24 111 (by kernel_rfl) (by kernel_rfl))
            · exact kp_pick rfl (L.val 14 101 (by kernel_rfl) (by kernel_rfl)) (L.val 25 112 (by kernel_rfl) (by kernel_rfl))
            · exact kp_pick rfl (L.val 2 89 (by kernel_rfl) (by kernel_rfl)) (L.val 26 113 (by kernel_rfl) (by kernel_rfl))
            · exact kp_move rfl (L.val 27 114 (by kernel_rfl) (by kernel_rfl))
            · exact kp_move rfl (L.old 9 (by kernel_rfl))
            · exact kp_text HT.out (HD.out.keep L.rel) rfl (L.val 29 116 (by kernel_rfl) (by kernel_rfl))
            · exact kp_string rfl Tryd.underlying31 Tryd.underlying5 Tryd.underlying9 (L.val 30 117 (by kernel_rfl) (by kernel_rfl))
            · exact kp_move rfl (L.old 0 (by kernel_rfl))
            · exact kp_string rfl Tryd.underlying31 Tryd.underlying5 Tryd.underlying9 ⟨_, _, (L.val 32 119 (by kernel_rfl) (by kernel_rfl)), HRA.out.keep L.rel⟩
            · exact kp_eqS (txt_eq a) rfl (L.val 31 118 (by kernel_rfl) (by kernel_rfl)) (L.val 33 120 (by kernel_rfl) (by kernel_rfl))
            · exact kp_pick rfl (L.val 28 115 (by kernel_rfl) (by kernel_rfl)) (L.val 34 121 (by kernel_rfl) (by kernel_rfl))
            · exact kp_assign rfl (L.val 35 122 (by kernel_rfl) (by kernel_rfl))
          · intro vs w8 hw8 hlen hv
            obtain ⟨us, ws, rfl, hu, hws⟩ : ∃ us ws : List Value, vs = us ++ ws ∧ us.length = 18 ∧ ws.length = 19 := ⟨vs.take 18, vs.drop 18, (List.take_append_drop 18 vs).symm, by rw [List.length_take, hlen]; rfl, by rw [List.length_drop, hlen]; rfl⟩
            match us, hu, ws, hws with
            | [v0, v1, v2, v3, v4, v5, v6, v7, v8, v9, v10, v11, v12, v13, v14, v15, v16, v17], _, [v18, v19, v20, v21, v22, v23, v24, v25, v26, v27, v28, v29, v30, v31, v32, v33, v34, v35, v36], _ =>
              have e36 : v36 = .bool true := hv 36 6 (by kernel_rfl)
              clear hv
              subst e36
              have HE := Lib.hid (HD.out.dv.kp.trans hw8)
              simp only [List.cons_append, List.nil_append, putAll, List.map, Act.put, List.setIfInBounds_toArray, List.set_cons_succ, List.set_cons_zero, Exit.then]
              go_wp2
              go_ret
              exact ⟨rfl, HE.out.below⟩
        · have HNE := Lib.hid hab
          clear hab
          refine wp_region_guard (R := Kp) (V := VTB o q PA PAc a PB PBc b) (w0 := wz) GTB (by kernel_rfl) (fun w => Keeps.refl _ w) (fun _ _ _ h k => h.trans k) VTB_mono (by kernel_rfl) GTB_is (unwanted_of [10, 11, 12] (by kernel_rfl) UTB_is) ((Keeps.refl _ wz).drew) (each_of ?_) ?_
          · refine ⟨?_, ?_, ?_, ?_, ?_, ?_, ?_, ?_, ?_, ?_, ?_, ?_, ?_, ?_, ?_, ?_, ?_, ?_, ?_, ?_, ?_, ?_, ?_, ?_, ?_, ?_, ?_, ?_, ?_, ?_, ?_, ?_, ?_, ?_, ?_, ?_, ?_, trivial⟩ <;> intro hw a1 w2 L
            · exact kp_move rfl (L.old 10 (by kernel_rfl))
            · exact kp_eqE rfl rfl (L.val 0 87 (by kernel_rfl) (by kernel_rfl)) rfl
            · exact kp_move rfl (L.val 1 88 (by kernel_rfl) (by kernel_rfl))
            · exact kp_move rfl (L.old 18 (by kernel_rfl))
            · exact kp_text HT.out (HO.out.keep L.rel) rfl (L.val 3 90 (by kernel_rfl) (by kernel_rfl))
            · exact kp_string rfl Tryd.underlying31 Tryd.underlying5 Tryd.underlying9 (L.val 4 91 (by kernel_rfl) (by kernel_rfl))
            · exact kp_move rfl (L.old 0 (by kernel_rfl))
            · exact kp_string rfl Tryd.underlying31 Tryd.underlying5 Tryd.underlying9 ⟨_, _, (L.val 6 93 (by kernel_rfl) (by kernel_rfl)), HRA.out.keep L.rel⟩
            · exact kp_eqS (txt_ne HNE.out) rfl (L.val 5 92 (by kernel_rfl) (by kernel_rfl)) (L.val 7 94 (by kernel_rfl) (by kernel_rfl))
            · exact kp_move rfl (L.val 8 95 (by kernel_rfl) (by kernel_rfl))
            · exact Bool.noConfusion (show false = true from hw)
            · exact Bool.noConfusion (show false = true from hw)
            · exact Bool.noConfusion (show false = true from hw)
            · exact kp_pick rfl (L.val 9 96 (by kernel_rfl) (by kernel_rfl)) rfl
            · exact kp_move rfl (L.val 13 100 (by kernel_rfl) (by kernel_rfl))
            · exact kp_move rfl (L.old 18 (by kernel_rfl))
            · exact kp_text HT.out (HO.out.keep L.rel) rfl (L.val 15 102 (by kernel_rfl) (by kernel_rfl))
            · exact kp_string rfl Tryd.underlying31 Tryd.underlying5 Tryd.underlying9 (L.val 16 103 (by kernel_rfl) (by kernel_rfl))
            · exact kp_move rfl (L.old 1 (by kernel_rfl))
            · exact kp_string rfl Tryd.underlying31 Tryd.underlying5 Tryd.underlying9 ⟨_, _, (L.val 18 105 (by kernel_rfl) (by kernel_rfl)), HRB.out.keep L.rel⟩
            · exact kp_eqS (txt_eq b) rfl (L.val 17 104 (by kernel_rfl) (by kernel_rfl)) (L.val 19 106 (by kernel_rfl) (by kernel_rfl))
            · exact kp_move rfl (L.val 20 107 (by kernel_rfl) (by kernel_rfl))
            · exact kp_move rfl (L.old 18 (by kernel_rfl))
            · exact kp_turn (HO.out.keep L.rel).su rfl (L.val 22 109 (by kernel_rfl) (by kernel_rfl))
            · exact kp_eqI rfl rfl (L.val 23 110 (by kernel_rfl) (by kernel_rfl)) rfl
            · exact kp_pick rfl (L.val 21 108 (by kernel_rfl) (by kernel_rfl)) (L.val 24 111 (by kernel_rfl) (by kernel_rfl))
            · exact kp_pick rfl (L.val 14 101 (by kernel_rfl) (by kernel_rfl)) (L.val 25 112 (by kernel_rfl) (by kernel_rfl))
            · exact kp_pick rfl (L.val 2 89 (by kernel_rfl) (by kernel_rfl)) (L.val 26 113 (by kernel_rfl) (by kernel_rfl))
            · exact kp_move rfl (L.val 27 114 (by kernel_rfl) (by kernel_rfl))
            · exact kp_move rfl (L.old 9 (by kernel_rfl))
            · exact kp_text HT.out (HD.out.keep L.rel) rfl (L.val 29 116 (by kernel_rfl) (by kernel_rfl))
            · exact kp_string rfl Tryd.underlying31 Tryd.underlying5 Tryd.underlying9 (L.val 30 117 (by kernel_rfl) (by kernel_rfl))
            · exact kp_move rfl (L.old 0 (by kernel_rfl))
            · exact kp_string rfl Tryd.underlying31 Tryd.underlying5 Tryd.underlying9 ⟨_, _, (L.val 32 119 (by kernel_rfl) (by kernel_rfl)), HRA.out.keep L.rel⟩
            · exact kp_eqS (txt_eq a) rfl (L.val 31 118 (by kernel_rfl) (by kernel_rfl)) (L.val 33 120 (by kernel_rfl) (by kernel_rfl))
            · exact kp_pick rfl (L.val 28 115 (by kernel_rfl) (by kernel_rfl)) (L.val 34 121 (by kernel_rfl) (by kernel_rfl))
            · exact kp_assign rfl (L.val 35 122 (by kernel_rfl) (by kernel_rfl))
          · intro vs w8 hw8 hlen hv
            obtain ⟨us, ws, rfl, hu, hws⟩ : ∃ us ws : List Value, vs = us ++ ws ∧ us.length = 18 ∧ ws.length = 19 := ⟨vs.take 18, vs.drop 18, (List.take_append_drop 18 vs).symm, by rw [List.length_take, hlen]; rfl, by rw [List.length_drop, hlen]; rfl⟩
            match us, hu, ws, hws with
            | [v0, v1, v2, v3, v4, v5, v6, v7, v8, v9, v10, v11, v12, v13, v14, v15, v16, v17], _, [v18, v19, v20, v21, v22, v23, v24, v25, v26, v27, v28, v29, v30, v31, v32, v33, v34, v35, v36], _ =>
              have e36 : v36 = .bool true := hv 36 6 (by kernel_rfl)
              clear hv
              subst e36
              have HE := Lib.hid (HD.out.dv.kp.trans hw8)
              simp only [List.cons_append, List.nil_append, putAll, List.map, Act.put, List.setIfInBounds_toArray, List.set_cons_succ, List.set_cons_zero, Exit.then]
              go_wp2
              go_ret
              exact ⟨rfl, HE.out.below⟩
end Go.Proofs.YtajapklpdfikoaaDoor.superTorn
