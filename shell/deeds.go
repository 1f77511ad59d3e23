package shell

// deed is a line of the script's language: its first word, what must stand behind it, whether a name that it names is there, and what it does.
type deed struct {
	form
	first string
	knows func(*shell, string) bool
	do    func(*shell, order) string
}

// deeds are all of them.
func deeds() []deed {
	name := form{names: 1, end: (*order).nothing}
	names := form{names: 2, end: (*order).nothing}
	nameNumber := form{names: 1, numbers: 1, end: (*order).nothing}
	nameText := form{names: 1, end: (*order).text}
	return []deed{
		{nameText, "net", (*shell).takes, (*shell).read},
		{name, "show", (*shell).hasNet, (*shell).show},
		{form{names: 1, end: (*order).anyText}, "max", (*shell).hasNet, (*shell).greatest},
		{nameText, "ask", (*shell).hasNet, (*shell).ask},
		{form{names: 1, numbers: 1, end: (*order).text}, "plan", (*shell).hasNet, (*shell).askByPlan},
		{name, "moves", (*shell).hasNet, (*shell).firstMoves},
		{nameNumber, "zone", (*shell).takes, (*shell).universe},
		{nameNumber, "zero", (*shell).takes, (*shell).zero},
		{name, "up", (*shell).hasZone, (*shell).up},
		{name, "down", (*shell).hasZone, (*shell).down},
		{form{names: 1, numbers: 2, end: (*order).nothing}, "reset", (*shell).hasZone, (*shell).reset},
		{nameNumber, "free", (*shell).hasZone, (*shell).free},
		{form{names: 1, end: (*order).allLimits}, "limit", (*shell).hasZone, (*shell).limit},
		{form{names: 1, end: (*order).allNumbers}, "widen", (*shell).hasZone, (*shell).widen},
		{name, "print", (*shell).hasZone, (*shell).print},
		{name, "point", (*shell).hasZone, (*shell).leastPoint},
		{form{names: 1, end: (*order).valuation}, "has", (*shell).hasZone, (*shell).has},
		{names, "includes", (*shell).hasZone, (*shell).includes},
		{names, "equal", (*shell).hasZone, (*shell).equal},
	}
}
