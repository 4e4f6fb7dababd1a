/- append of steps onto none. -/
import Derived.Test.YtmkoeomkbbmoaaaWStep
import Derived.Test.YtmkoeomkbbmoaaaWImplC
import Derived.Maps.AppendAt
namespace Go.Proofs.Ytmkoeomkbbmoaaa
open Go.RowKit Go.Deep

/-- An append, as one step of a region in its order. -/
theorem wpList_append_one {P : Program} {ops : Array Oper} {rest : List Oper} {o : Oper} {a : Act} {w : World} {Q : Exit → Act → World → Prop} (Φ : Value → World → Prop) (hgd : o.guard = none) (s x : Operand) (t : TypeId)
    (ho : o.op = .call { callee := .builtin .append, args := #[s, x], argTypes := #[t, t] }) (vs vx : Value) (hs : a.eval s = vs) (hx : a.eval x = vx)
    (hrun : ∃ v' w', (Builtin.append_ #[t, t] o.type #[vs, vx]).run P w = .ok v' w' ∧ Φ v' w') (h : ∀ v' w', Φ v' w' → wpList P ops Q rest (a.put o.dst v') w') :
    wpList P ops Q (o :: rest) a w := by
  refine wpList_plain hgd fun K hK => ?_
  obtain ⟨v', w', hr, h2⟩ := hrun
  unfold Oper.wp execOp
  simp only [ho, resolve, invoke, builtin, Sem.run_bind, Sem.run_pure, Result.andThen_ok, List.map_toArray, List.map_cons, List.map_nil, hs, hx, hr]
  exact hK _ _ (h v' w' h2)

/-- Steps, copied behind none. -/
theorem run_append_steps (S : Nat → Prop) (ps : List Stp) (al : Option Addr) (cl : Nat) (ty : TypeId) (w : World) (hv : StepsAt S w (.slice al ps.length cl) ps) (hsm : ps.length ≤ 4194304) :
    ∃ v' w', (Builtin.append_ #[38, 38] ty #[.slice none 0 0, .slice al ps.length cl]).run Try.prog w = .ok v' w' ∧ ((∃ a c, v' = .slice a ps.length c) ∧ Below w.heap.size w w') := by
  obtain ⟨i0, hi, hz0, hz1, hz2⟩ := info_parts Try.infoStep
  have hu : Try.prog.underlying 38 = some (.slice 54) := Try.underlying38
  have hown : w.ownsRow w.heap.size 54 3 (.slice none 0 0) 0 [] := World.ownsRow_nil _ _ _ _
  by_cases h0 : ps = []
  · subst h0
    refine ⟨.slice none 0 0, w, ?_, ⟨_, _, rfl⟩, Below.refl _ _⟩
    cases al with
    | none => simp [Builtin.append_, run_underlying hu, sizeOf, typeInfo, hi, Builtin.lenOf, Builtin.firstCells, Result.andThen, hz1]
    | some a => simp [Builtin.append_, run_underlying hu, sizeOf, typeInfo, hi, Builtin.lenOf, Builtin.firstCells, loadCells, loadCellsFrom, Result.andThen, hz1]
  · have hpos : 0 < ps.length := List.length_pos_iff.2 h0
    obtain ⟨b, o, _, rfl, hbS, _⟩ := hv.cell hpos
    have hcell : ∀ i p, ps[i]? = some p → w.cell? ⟨b, o + i * 3, none⟩ = some (.bool p.map) ∧ w.cell? ⟨b, o + i * 3 + 1, none⟩ = some (.string p.key) ∧ w.cell? ⟨b, o + i * 3 + 2, none⟩ = some (.int .i64 p.place) := by
      intro i p hp
      obtain ⟨b', o', p', e', _, hp', _, e0, e1, e2⟩ := hv.cell (List.getElem?_eq_some_iff.1 hp).1
      cases e'
      rw [hp] at hp'
      cases hp'
      exact ⟨e0, e1, e2⟩
    have hex : ∀ j, j < ps.length * 3 → ∃ u, w.cell? ⟨b, o + j, none⟩ = some u ∧ u.oneCell' = true := by
      intro j hj
      obtain ⟨e0, e1, e2⟩ := hcell (j / 3) _ (List.getElem?_eq_getElem (show j / 3 < ps.length by omega))
      rcases (by omega : j = j / 3 * 3 ∨ j = j / 3 * 3 + 1 ∨ j = j / 3 * 3 + 2) with e | e | e
      · exact ⟨_, by rw [e]; exact e0, rfl⟩
      · exact ⟨_, by rw [e, ← Nat.add_assoc]; exact e1, rfl⟩
      · exact ⟨_, by rw [e, ← Nat.add_assoc]; exact e2, rfl⟩
    obtain ⟨news, hnl, hnews⟩ : ∃ news : List Value, news.length = ps.length * 3 ∧ ∀ j, j < ps.length * 3 → ∃ u, news[j]? = some u ∧ w.cell? ⟨b, o + j, none⟩ = some u ∧ u.oneCell' = true := by
      refine ⟨(List.range (ps.length * 3)).map (fun j => (w.cell? ⟨b, o + j, none⟩).getD undef), by simp, fun j hj => ?_⟩
      obtain ⟨u, hu, h1⟩ := hex j hj
      exact ⟨u, by simp [hj, hu], hu, h1⟩
    have hone : ∀ u ∈ news, u.oneCell' = true := by
      intro u hu
      obtain ⟨j, hj⟩ := List.getElem?_of_mem hu
      have hjl := (List.getElem?_eq_some_iff.1 hj).1
      obtain ⟨u', hu', _, h1⟩ := hnews j (by omega)
      rw [hj] at hu'
      cases hu'
      exact h1
    have hadd : ∀ j, (⟨b, o, none⟩ : Addr).add j = ⟨b, o + j, none⟩ := fun j => by unfold Addr.add; split <;> simp_all
    obtain ⟨v', w', hr, ho, hgr, _, hat⟩ := run_append_own_at (P := Try.prog) w w.heap.size 38 ty 54 i0 zeroStp 3 32 hu hi hz0 hz1 hz2 rfl (by decide) _ 0 [] hown ⟨b, o, none⟩ ps.length cl news hnl
      (fun j u hj => by rw [hadd]; obtain ⟨u', h1, h2, _⟩ := hnews j (by have := (List.getElem?_eq_some_iff.1 hj).1; omega); rw [hj] at h1; cases h1; exact h2) hone (by unfold maxLen; omega) (by omega) (by omega)
    rw [Nat.zero_add] at ho
    have hsh : ∃ a c, v' = .slice a ps.length c := by
      rcases ho.2 with ⟨_, h⟩ | ⟨g', c', cur, e, _⟩
      · omega
      · exact ⟨_, _, e⟩
    exact ⟨v', w', hr, hsh, ⟨hgr.os, hgr.tape, hgr.output, hgr.size, fun c hc => hgr.block c hc (fun e => by cases e)⟩⟩
end Go.Proofs.Ytmkoeomkbbmoaaa
