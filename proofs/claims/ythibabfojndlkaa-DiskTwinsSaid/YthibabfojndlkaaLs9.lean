/- List. -/
import Derived.Test.YthibabfojndlkaaMf9
import Derived.Deep.AppendLies
namespace Go.Proofs.Ythibabfojndlkaa
open Go.RowKit Go.Lib
set_option maxRecDepth 100000

def begins (p : ByteArray) (f : Fl) : Bool := Lib.hasPrefix f.name.data.toList p.data.toList
def svals (l : List ByteArray) : List Value := l.map fun s => Value.string s
def listD (k : Dk) (p : ByteArray) : List ByteArray := if k.on then (k.files.filter (begins p)).map (·.name) else []

set_option maxHeartbeats 1000000 in
theorem list_any {w : World} {d : Nat} {k : Dk} {own : List Nat} (h : Dsk w d k own) (p : ByteArray) :
    Calls Try.prog 20 #[ptr d, .string p] w fun e w' => ∃ v, e = .returned v ∧ w'.ownsRow w.heap.size 9 1 v (listD k p).length (svals (listD k p)) ∧ Touch [] w w' := by
  obtain ⟨rv, kv, L, hD, hO, hB⟩ := h
  have C0 := hid (on_any hD.cells)
  unfold listD
  by_cases hon : k.on = true
  rotate_left
  · rw [if_neg hon]
    replace hon : k.on = false := by simpa using hon
    rw [hon] at C0
    unfold ptr at C0 ⊢
    clear hD hO hB
    go_enter Try.func20, Try.ntmps20
    go_wp2_with (go_at_call 24; with_reducible refine C0.out.mono ?_; rintro e w1 ⟨rfl, rfl⟩)
    go_ret
    exact ⟨_, rfl, World.ownsRow_nil _ _ _ _, Touch.refl _ _⟩
  rw [if_pos hon]
  rw [hon] at C0
  obtain ⟨-, -, -, c3, -⟩ := dk_cell hD.cells
  obtain ⟨rx, rc, hrv, hrc, hrm, -, hcell⟩ := row_cell hD.row
  subst hrv
  have hlen : L.length ≤ 200 := by have := hD.many; rw [← hD.files, List.length_map] at this; exact this
  have HC := hid hcell
  have HE := hid hD.each
  have hfl := hid hD.files
  rw [← hD.files]
  unfold ptr at C0 ⊢
  clear hD hO hB hcell hrm hon
  have hstep : Hid (∀ i (hi : i < L.length), ((L.map (·.f)).take (i + 1)).filter (begins p) = ((L.map (·.f)).take i).filter (begins p) ++ if begins p L[i].f then [L[i].f] else []) := hid fun i hi => by
    rw [List.take_succ_eq_append_getElem (by simpa using hi), List.filter_append]
    congr 1
    cases hb : begins p L[i].f <;> simp [List.filter, hb]
  go_enter Try.func20, Try.ntmps20
  go_wp2_with (go_at_call 24; with_reducible refine C0.out.mono ?_; rintro e w1 ⟨rfl, rfl⟩)
  go_loopw [5, 16] (fun sv iv wr => ∃ (i m : Nat) (sx : Option Addr) (sc : Nat), i ≤ L.length ∧ m ≤ i ∧ iv = .int .i64 i ∧ sv = .slice sx m sc ∧ Hid (wr.ownsRow w1.heap.size 9 1 (.slice sx m sc) m (svals ((((L.map (·.f)).take i).filter (begins p)).map (·.name))) ∧ Touch [] w1 wr)) (fun _ iv _ => L.length - (RowKit.intOf iv).toNat)
  case atStart => exact ⟨0, 0, none, 0, Nat.zero_le _, Nat.le_refl _, rfl, rfl, hid ⟨World.ownsRow_nil _ _ _ _, Touch.refl _ _⟩⟩
  case round =>
    obtain ⟨i, m, sx, sc, hi, hmi, rfl, rfl, I⟩ := hrel
    by_cases hlt : i < L.length
    · obtain ⟨b, rfl, g0⟩ := HC.out i hlt
      have g1 := touch_cell I.out.2 g0 (by simp)
      unfold ptr at g1
      have fx := (HE.out _ (List.getElem_mem hlt)).touch I.out.2 (by simp)
      obtain ⟨f0, -⟩ := head_cells fx.head
      have hnl := fx.len
      have CH := hid (fun w => Try.strings_HasPrefix L[i].f.name p w)
      have CC := hid (fun w => clone_any L[i].f.name w (by omega))
      have hst := hid (hstep.out i hlt)
      have hbd : begins p L[i].f = Lib.hasPrefix L[i].f.name.data.toList p.data.toList := rfl
      rw [hbd] at hst
      have hm200 := hid (show m ≤ 200 by omega)
      have hname : Hid (∀ q : Bool, q = true → svals ((((L.map (·.f)).take i).filter (begins p) ++ if q then [L[i].f] else []).map (·.name)) = svals ((((L.map (·.f)).take i).filter (begins p)).map (·.name)) ++ [.string L[i].f.name]) := hid (by rintro q rfl; simp [svals])
      have hlt' : decide (i < L.length) = true := by simpa using hlt
      generalize L[i].f.name = nm at *
      generalize L[i].b = xb at *
      generalize Lib.hasPrefix nm.data.toList p.data.toList = q at *
      clear fx g0 hbd
      cases q
      · go_wp2_with (go_at_call 45; with_reducible refine (CH.out _).mono ?_; rintro e wa ⟨rfl, rfl⟩)
        go_roundw
        case rel =>
          refine ⟨i + 1, m, sx, sc, by omega, by omega, by go_num, rfl, hid ⟨?_, I.out.2⟩⟩
          rw [hst.out]
          simpa using I.out.1
        case measure => simp [RowKit.intOf]; omega
      · go_wp2_with (first
          | (go_at_call 45; with_reducible refine (CH.out _).mono ?_; rintro e wa ⟨rfl, rfl⟩)
          | (go_at_call 46; with_reducible refine (CC.out _).mono ?_; rintro e wb ⟨rfl, tb⟩; have P3 := hid (own_touch I.out.1 tb (by simp)); have TB := hid (I.out.2.trans tb nil_mem); clear tb)
          | (at_builtin; refine wpList_append_lies _ rfl _ _ 34 rfl w1.heap.size 9 _ (.string ⟨#[]⟩) 1 16 rfl rfl rfl rfl rfl rfl (by omega) _ m _ rfl (P3.out.alloc _) ⟨wb.heap.size, 0, none⟩ 1 1 [.string nm] rfl rfl (World.news_of_block (heap_alloc_new wb _)) (by intro u hu; simp at hu; subst hu; rfl) (by omega) (by have := hm200.out; unfold maxLen; omega) (by have := hm200.out; omega) (by have := TB.out.size; simp; omega) _ rfl ?_; intro gg cap w3 hown hgrow hat hlt3; have O3 := hid (And.intro hown (And.intro hgrow hat)); clear hown hgrow hat hlt3))
        go_roundw
        case rel =>
          refine ⟨i + 1, m + 1, some ⟨gg, 0, none⟩, cap, by omega, by omega, by go_num, rfl, hid ⟨?_, (TB.out.alloc _).grown O3.out.2.1 (fun k hk => .inr (own_base I.out.1 k (Option.mem_toList.2 hk)))⟩⟩
          have e := hname.out true rfl
          rw [if_pos rfl] at e
          rw [hst.out, if_pos trivial, e]
          exact O3.out.1
        case measure => simp [RowKit.intOf]; omega
    · obtain rfl : i = L.length := by omega
      have e : (L.map (·.f)).take L.length = L.map (·.f) := List.take_of_length_le (by simp)
      have hI := hid I.out
      rw [e] at hI
      have hml : ((L.map (·.f)).filter (begins p)).length = m := by have := hI.out.1.1; simp [svals] at this; omega
      have hML := hid hml
      clear I hml
      go_wp2
      go_ret
      refine ⟨_, rfl, ?_, hI.out.2⟩
      rw [hML.out]
      exact hI.out.1
end Go.Proofs.Ythibabfojndlkaa
