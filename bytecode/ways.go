package bytecode

import (
	"phrases/api"
	"phrases/program"
)

// mostEntered is how many numbers may be entered and not left.
const mostEntered = 6

// unreached stands for an instruction to which no way was found yet.
const unreached = -1

// ways follows all ways through a program. They lead further on alone, so that one pass from the first instruction to the last sees them all.
type ways struct {
	at      int
	entered []int // how many numbers are entered and not left ahead of each instruction
	err     error
}

// checkWays follows all ways: ErrBytes, if there is one that may not be, or an instruction to which none leads.
func checkWays(code program.Code) error {
	w := ways{entered: make([]int, len(code))}
	for at := range code {
		w.entered[at] = unreached
	}
	w.entered[0] = 0
	for at, i := range code {
		w.at = at
		w.need(w.entered[at] != unreached)
		if w.err != nil {
			return w.err
		}
		w.follow(i, w.entered[at])
	}
	return w.err
}

func (w *ways) need(holds bool) {
	if !holds {
		w.err = api.ErrBytes
	}
}

// lead leads a way on to instructions, with so many numbers entered.
func (w *ways) lead(entered int, targets ...int) {
	for _, to := range targets {
		if to <= w.at || to >= len(w.entered) {
			w.need(false)
			return
		}
		w.need(w.entered[to] == unreached || w.entered[to] == entered)
		w.entered[to] = entered
	}
}

// follow leads the ways on that come to an instruction with so many numbers entered.
func (w *ways) follow(i program.Instruction, entered int) {
	next := w.at + 1
	switch i := i.(type) {
	case program.End:
		w.need(entered == 0)
	case program.Say, program.SayArgument, program.SayNumber:
		w.lead(entered, next)
	case program.Enter:
		w.need(entered < mostEntered)
		w.lead(entered+1, next)
	case program.Leave:
		w.need(entered > 0)
		w.lead(entered-1, next)
	case program.SayEntered:
		w.need(entered > 0)
		w.lead(entered, next)
	case program.IfEqual:
		w.need(entered > 0)
		w.lead(entered, next, i.Target)
	case program.ByCategory:
		w.need(entered > 0)
		w.lead(entered, i.Targets[:]...)
	case program.ByText:
		for _, c := range i.Cases {
			w.lead(entered, c.Target)
		}
		w.lead(entered, i.Others)
	case program.Jump:
		w.lead(entered, i.Target)
	}
}
