package world

import (
	"slices"
	"strings"

	"braidwork/code"
	"braidwork/tree"
)

// copied: with lists of its own of all that a step may change. No step changes the program, so it is shared.
func (w World) copied() World {
	w.Cells = slices.Clone(w.Cells)
	w.Holders = slices.Clone(w.Holders)
	w.Sems = slices.Clone(w.Sems)
	w.Threads = slices.Clone(w.Threads)
	return w
}

// copiedProgram: whatever is done with a program, worlds made of it stay as they are.
func copiedProgram(p code.Program) code.Program {
	p.Cells = slices.Clone(p.Cells)
	p.Sems = slices.Clone(p.Sems)
	p.Threads = slices.Clone(p.Threads)
	for i, t := range p.Threads {
		p.Threads[i] = code.Thread{Code: copiedCode(t.Code), Regs: copiedNames(t.Regs)}
	}
	return p
}

func copiedCode(l []code.Instr) []code.Instr {
	out := slices.Clone(l)
	for i := range out {
		out[i].Exprs = copiedExprs(out[i].Exprs)
	}
	return out
}

func copiedExprs(l []tree.Expr) []tree.Expr {
	out := slices.Clone(l)
	for i, e := range out {
		out[i].Op = strings.Clone(e.Op)
		out[i].Name = strings.Clone(e.Name)
		out[i].Parts = copiedExprs(e.Parts)
	}
	return out
}

func copiedNames(l []string) []string {
	out := slices.Clone(l)
	for i, s := range out {
		out[i] = strings.Clone(s)
	}
	return out
}
