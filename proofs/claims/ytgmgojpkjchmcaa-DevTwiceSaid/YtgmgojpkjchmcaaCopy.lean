/-
  copy ONTO A WHOLE ROW OF THE CALL's OWN (my own text; it knows no program).
-/
import Derived.Test.YtgmgojpkjchmcaaWords
import Derived.Laws.CopyOwn
namespace Go.Proofs.Ytgmgojpkjchmcaa
open Go Go.RowKit

section
variable {P : Program} {w : World} {base n c g : Nat} {e : TypeId} {xs ys : List Value}
theorem run_copy_own {dT sT : TypeId} (ty : TypeId) (hu : P.underlying dT = some (.slice e)) (hsz : (P.info? e).map (·.size) = some 1) (hown : w.ownsRow base e 1 (.slice (some ⟨g, 0, none⟩) n c) n xs)
    (b o sc : Nat) (hlen : ys.length = n) (hsrc : ∀ j v, ys[j]? = some v → w.cell? ⟨b, o + j, none⟩ = some v) (h1 : ∀ v ∈ ys, v.oneCell' = true) :
    ∃ w', (Builtin.copy_ #[dT, sT] ty #[.slice (some ⟨g, 0, none⟩) n c, .slice (some ⟨b, o, none⟩) n sc]).run P w = .ok (goInt ys.length) w' ∧ w'.ownsRow base e 1 (.slice (some ⟨g, 0, none⟩) n c) n ys ∧ w.grownBy w' (some g) := by
  rcases hown.2 with ⟨h', _⟩ | ⟨g', c', cur, h', hb, hg, hnc, hcm, hcs, htake⟩
  · cases h'
  · injection h' with h1' _ h2'
    injection h1' with h1'
    injection h1' with h1'
    subst h1' h2'
    have hr := run_copy_row (P := P) w dT sT ty e g 0 n c ⟨b, o, none⟩ n sc cur e ys hu hsz hg (by simp [hlen]) (fun j v hv => by rw [WideShapes.add_plain]; exact hsrc j v hv) (by rw [hcs, hlen]; omega) h1
    have hlen' : n ≤ cur.toList.length := by rw [Array.length_toList, hcs]; omega
    refine ⟨_, hr, ⟨by rw [hlen]; omega, .inr ⟨g, c, _, rfl, hb, setRow_heap w g cur _ e _ hg, hnc, hcm, ?_, ?_⟩⟩, ⟨rfl, rfl, rfl, by simp, fun k _ hk => setRow_other w g k _ (fun e => hk (by rw [e]))⟩⟩
    · simp only [List.size_toArray, List.length_append, List.length_take, List.length_drop, Array.length_toList, hcs, hlen]
      omega
    · simp only [List.take_zero, List.nil_append, Nat.mul_one]
      rw [← hlen]
      exact List.take_left
theorem step_copy_own {ops : Array Oper} {o : Oper} {a : Act} {K : Act → World → Prop} {Q : Exit → Act → World → Prop} {E : Prop} (hgd : o.guard = none) (d s : Operand) (dT sT : TypeId)
    (ho : o.op = .call { callee := .builtin .copy, args := #[d, s], argTypes := #[dT, sT] }) (hu : P.underlying dT = some (.slice e)) (hsz : (P.info? e).map (·.size) = some 1)
    (hown : w.ownsRow base e 1 (.slice (some ⟨g, 0, none⟩) n c) n xs) (b off sc : Nat) (hlen : ys.length = n) (hsrc : ∀ j v, ys[j]? = some v → w.cell? ⟨b, off + j, none⟩ = some v) (h1 : ∀ v ∈ ys, v.oneCell' = true)
    (hd : a.eval d = .slice (some ⟨g, 0, none⟩) n c) (hs : a.eval s = .slice (some ⟨b, off, none⟩) n sc)
    (hK : ∀ w', w'.ownsRow base e 1 (.slice (some ⟨g, 0, none⟩) n c) n ys → w.grownBy w' (some g) → K (a.put o.dst (goInt ys.length)) w') :
    if Region.wanted o (yielded ops a.tmps) = true then Oper.wp P o a w K Q else E := by
  have hw : Region.wanted o (yielded ops a.tmps) = true := by simp [Region.wanted, hgd]
  rw [if_pos hw]
  obtain ⟨w', hr, h2, h3⟩ := run_copy_own (sT := sT) o.type hu hsz hown b off sc hlen hsrc h1
  unfold Oper.wp execOp
  simp only [ho, resolve, invoke, builtin, Sem.run_bind, Sem.run_pure, Result.andThen_ok, List.map_toArray, List.map_cons, List.map_nil, hd, hs, hr]
  exact hK w' h2 h3
end

end Go.Proofs.Ytgmgojpkjchmcaa
