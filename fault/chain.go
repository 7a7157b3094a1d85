package fault

import "strconv"

// walk hands each *Fault in err's chain to visit, the outermost first, and answers the error that the chain ends with.
// That is nil where there is none: behind a nil *Fault, and where the chain comes back to a *Fault that it has passed, since it would never end.
func walk(err error, visit func(link *Fault)) error {
	passed := map[*Fault]struct{}{}
	for {
		link, ok := err.(*Fault)
		if !ok {
			return err
		}
		if _, again := passed[link]; again || link == nil {
			return nil
		}
		passed[link] = struct{}{}
		visit(link)
		err = link.Err
	}
}

// end answers the error that err's chain ends with, as walk does. It is of err's kind, since no *Fault has a kind of its own.
func end(err error) error {
	return walk(err, func(*Fault) {})
}

// text answers what link itself adds to the text of its chain. Were each link to tell those behind it too, a long chain's text would be copied once for each link.
func text(link error) (told string) {
	defer func() {
		if recover() != nil { // an error from elsewhere may have a text that panics
			told = ""
		}
	}()
	switch e := link.(type) {
	case nil:
		return ""
	case *Fault:
		return e.Where + " " + strconv.Itoa(e.At) + ": "
	default:
		return e.Error()
	}
}
