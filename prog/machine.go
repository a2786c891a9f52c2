package prog

import (
	"math"

	"chronicle/api"
	"chronicle/guard"
	"chronicle/real"
)

// machine is a program at work: what it sees, and its numbers.
type machine struct {
	env   Env
	stack []float64
}

// meaning tells what a word does; nil of what is no word.
func meaning(word string) func(m *machine) {
	switch word {
	case "state":
		return func(m *machine) { m.push(m.env.State) }
	case "value":
		return func(m *machine) { m.push(m.env.Event.Value) }
	case "version":
		return func(m *machine) { m.push(float64(m.env.Version)) }
	case "len":
		return func(m *machine) { m.push(float64(len(m.env.Event.Data))) }
	case "byte":
		return (*machine).byteAt
	case "neg":
		return func(m *machine) { m.push(-m.pop()) }
	case "dup":
		return (*machine).dup
	case "drop":
		return func(m *machine) { m.pop() }
	case "swap":
		return (*machine).swap
	case "pick":
		return (*machine).pick
	case "fail":
		return func(*machine) { guard.Fail(word) }
	}
	if of := ofTwo(word); of != nil {
		return func(m *machine) {
			b, a := m.pop(), m.pop()
			m.push(of(a, b))
		}
	}
	if f, e := real.Parse(word); e == api.OK {
		return func(m *machine) { m.push(f) }
	}
	return nil
}

// ofTwo tells what a word makes of two numbers; nil of a word that does something else.
func ofTwo(word string) func(a, b float64) float64 {
	switch word {
	case "add":
		return func(a, b float64) float64 { return a + b }
	case "sub":
		return func(a, b float64) float64 { return a - b }
	case "mul":
		return func(a, b float64) float64 { return a * b }
	case "div":
		return func(a, b float64) float64 { return a / b }
	case "min":
		return func(a, b float64) float64 { return real.Least(a, b) }
	case "max":
		return func(a, b float64) float64 { return real.Most(a, b) }
	case "less":
		return less
	}
	return nil
}

func less(a, b float64) float64 {
	if real.Less(a, b) {
		return 1
	}
	return 0
}

func (m *machine) push(f float64) { m.stack = append(m.stack, real.Canon(f)) }

// pop takes the last number. Of none the place is below 0, where the language itself panics.
func (m *machine) pop() float64 {
	last := len(m.stack) - 1
	f := m.stack[last]
	m.stack = m.stack[:last]
	return f
}

// byteAt turns into an int only what is a place, since each kind of computer makes another int of other numbers. For those it asks for a place below 0, where the language itself panics.
func (m *machine) byteAt() {
	data, f, place := m.env.Event.Data, m.pop(), -1
	if f >= 0 && f < float64(len(data)) && f == math.Trunc(f) {
		place = int(f)
	}
	m.push(float64(data[place]))
}

func (m *machine) dup() {
	f := m.pop()
	m.push(f)
	m.push(f)
}

func (m *machine) swap() {
	b, a := m.pop(), m.pop()
	m.push(b)
	m.push(a)
}

func (m *machine) pick() {
	c, b, a := m.pop(), m.pop(), m.pop()
	switch real.Class(c) {
	case real.NaN, real.MinusZero, real.Zero:
		m.push(b)
	default:
		m.push(a)
	}
}
